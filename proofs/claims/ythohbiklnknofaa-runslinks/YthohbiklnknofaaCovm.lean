/- Each place that is kept lies in one sequence: plain mathematics. -/
import Derived.Test.YthohbiklnknofaaSidm
namespace Go.Proofs.Ythohbiklnknofaa.Rn
set_option linter.unusedVariables false
open Ex (lev LV rm Formed)
section
variable {f : Nat → Option Nat} {N : Nat}
theorem chn_sorted (hf : ∀ k j, k < N → f k = some j → k < j ∧ j < N) : ∀ c a, a < N → (chn f c a).Pairwise (· < ·) ∧ ∀ j ∈ chn f c a, a ≤ j ∧ j < N := by
  intro c
  induction c with
  | zero => intro a _; exact ⟨by simp [chn], by simp [chn]⟩
  | succ c ih =>
    intro a ha
    rw [chn_succ]
    cases h : f a with
    | none => exact ⟨by simp, fun j hj => by simp at hj; omega⟩
    | some b =>
      obtain ⟨h1, h2⟩ := hf a b ha h
      obtain ⟨i1, i2⟩ := ih b h2
      refine ⟨List.pairwise_cons.2 ⟨fun j hj => by have := (i2 j hj).1; omega, i1⟩, fun j hj => ?_⟩
      rcases List.mem_cons.1 hj with rfl | hj
      · omega
      · have := i2 j hj; omega
theorem count_bg (hf : ∀ k j, k < N → f k = some j → k < j ∧ j < N) {k : Nat} (hk : ∀ a, a < N → f a ≠ some k) : ∀ c a, a < N → N - a ≤ c → (chn f c a).count k = [a].count k := by
  intro c
  induction c with
  | zero => intro a ha hc; omega
  | succ c ih =>
    intro a ha hc
    rw [chn_succ]
    cases h : f a with
    | none => rfl
    | some b =>
      obtain ⟨h1, h2⟩ := hf a b ha h
      have hi := ih b h2 (by omega)
      have hbk : ¬ b = k := fun e => hk a ha (by rw [h, e])
      have : ([b] : List Nat).count k = 0 := by rw [List.count_eq_zero]; simp; exact fun e => hbk e.symm
      rw [this] at hi
      simp only
      rw [show a :: chn f c b = [a] ++ chn f c b from rfl, List.count_append, hi, Nat.add_zero]
theorem count_pred (hf : ∀ k j, k < N → f k = some j → k < j ∧ j < N) {k p : Nat} (hp : p < N) (hpk : f p = some k) (hu : ∀ a, a < N → f a = some k → a = p) : ∀ c a, a < N → N - a ≤ c → (chn f c a).count k = [a].count k + (chn f c a).count p := by
  have hpk1 := hf p k hp hpk
  intro c
  induction c with
  | zero => intro a ha hc; omega
  | succ c ih =>
    intro a ha hc
    rw [chn_succ]
    cases h : f a with
    | none =>
      have hap : ¬ a = p := fun e => by rw [e, hpk] at h; cases h
      have : ([a] : List Nat).count p = 0 := by rw [List.count_eq_zero]; simp; exact fun e => hap e.symm
      simp only
      omega
    | some b =>
      obtain ⟨h1, h2⟩ := hf a b ha h
      have hi := ih b h2 (by omega)
      simp only
      rw [show a :: chn f c b = [a] ++ chn f c b from rfl, List.count_append, List.count_append, hi]
      have : ([b] : List Nat).count k = ([a] : List Nat).count p := by
        by_cases e : a = p
        · subst e
          rw [hpk] at h
          cases h
          simp
        · have e2 : ¬ b = k := fun q => e (hu a ha (by rw [h, q]))
          have q1 : ([b] : List Nat).count k = 0 := by rw [List.count_eq_zero]; simp; exact fun e => e2 e.symm
          have q2 : ([a] : List Nat).count p = 0 := by rw [List.count_eq_zero]; simp; exact fun q => e q.symm
          rw [q1, q2]
      omega
theorem sum_bg {k : Nat} {g : Nat → List Nat} (l : List Nat) (h : ∀ a ∈ l, (g a).count k = [a].count k) : (l.flatMap g).count k = l.count k := by
  induction l with
  | nil => rfl
  | cons a t ih =>
    rw [List.flatMap_cons, List.count_append, h a (by simp), ih (fun q hq => h q (by simp [hq])), show a :: t = [a] ++ t from rfl, List.count_append]
theorem sum_pred {k p : Nat} {g : Nat → List Nat} (l : List Nat) (h : ∀ a ∈ l, (g a).count k = [a].count k + (g a).count p) : (l.flatMap g).count k = l.count k + (l.flatMap g).count p := by
  induction l with
  | nil => rfl
  | cons a t ih =>
    rw [List.flatMap_cons, List.count_append, List.count_append, h a (by simp), ih (fun q hq => h q (by simp [hq])), show a :: t = [a] ++ t from rfl, List.count_append]
    omega
/-- The chains of those that begin are all of the runs, each once. -/
theorem chains_perm (hf : ∀ k j, k < N → f k = some j → k < j ∧ j < N) (bgn : Nat → Bool) (h1 : ∀ k, k < N → bgn k = false → ∃ p, p < k ∧ f p = some k) (h2 : ∀ a k, a < N → f a = some k → bgn k = false) (h3 : ∀ a a' k, a < N → a' < N → f a = some k → f a' = some k → a = a') :
    (((List.range N).filter bgn).flatMap fun a => chn f (N - a) a).Perm (List.range N) := by
  have hmem : ∀ a ∈ (List.range N).filter bgn, a < N := fun a ha => List.mem_range.1 (List.mem_filter.1 ha).1
  rw [List.perm_iff_count]
  intro k
  rw [List.count_range]
  by_cases hk : k < N
  · rw [if_pos hk]
    induction k using Nat.strongRecOn with
    | ind k ih =>
      have hcf : ((List.range N).filter bgn).count k = if bgn k then 1 else 0 := by
        cases hb : bgn k with
        | true => rw [List.count_filter hb, List.count_range, if_pos hk]; rfl
        | false =>
          rw [if_neg (by decide)]
          rw [List.count_eq_zero]
          intro hm
          have := (List.mem_filter.1 hm).2
          rw [hb] at this
          cases this
      cases hb : bgn k with
      | true =>
        rw [sum_bg _ (fun a ha => count_bg hf (fun q hq e => by have := h2 q k hq e; rw [hb] at this; cases this) (N - a) a (hmem a ha) (Nat.le_refl _)), hcf, hb]
        rfl
      | false =>
        obtain ⟨p, hp1, hp2⟩ := h1 k hk hb
        rw [sum_pred _ (fun a ha => count_pred hf (by omega) hp2 (fun q hq e => h3 q p k hq (by omega) e hp2) (N - a) a (hmem a ha) (Nat.le_refl _)), hcf, hb, ih p hp1 (by omega)]
        rfl
  · rw [if_neg hk, List.count_eq_zero]
    intro hm
    obtain ⟨a, ha, hm⟩ := List.mem_flatMap.1 hm
    have := ((chn_sorted hf (N - a) a (hmem a ha)).2 k hm).2
    omega
end
theorem range_rn (rs : List (List Nat)) : (List.range rs.length).flatMap (rn rs) = rs.flatten := by
  have : (List.range rs.length).map (rn rs) = rs := by
    apply List.ext_getElem
    · simp
    · intro i h1 h2
      simp [rn, List.getD, h2]
  rw [List.flatMap_def, this]
section
variable {b : Int} {c : List Int}
theorem fo_up (hb : b = 0 ∨ b = 1) (hF : Formed c) : ∀ k j, k < (RS (LV b c)).length → fo (Iso.MT c) (RS (LV b c)) k = some j → k < j ∧ j < (RS (LV b c)).length := fun k j hk h => ⟨(fo_some hb hF hk h).1, (fo_some hb hF hk h).2.1⟩
/-- All places of all sequences. -/
def AP (b : Int) (c : List Int) : List Nat := (sqs b (LV b c) (Iso.MT c) (RS (LV b c)) (RS (LV b c)).length).flatMap Sq.places
theorem AP_perm (hb : b = 0 ∨ b = 1) (hF : Formed c) : (AP b c).Perm ((List.range c.length).filter (kp (LV b c))) := by
  have h1 : AP b c = (((List.range (RS (LV b c)).length).filter (bg (Iso.MT c) (RS (LV b c)))).flatMap fun a => chn (fo (Iso.MT c) (RS (LV b c))) ((RS (LV b c)).length - a) a).flatMap (rn (RS (LV b c))) := by
    unfold AP sqs
    rw [List.flatMap_assoc, List.flatMap_map]
    rfl
  rw [h1]
  have h2 := chains_perm (fo_up hb hF) (bg (Iso.MT c) (RS (LV b c))) (fun k hk h => bg_pred hb hF hk h) (fun a k ha h => fo_not_bg hb hF ha h) (fun a a' k ha ha' h h' => fo_inj hb hF ha ha' h h')
  have h3 := List.Perm.flatMap_right (rn (RS (LV b c))) h2
  rw [range_rn, (runs_of (LV b c)).flat, Ex.LV_len] at h3
  exact h3
theorem AP_count (hb : b = 0 ∨ b = 1) (hF : Formed c) (i : Nat) (hi : i < c.length) : (AP b c).count i = if kp (LV b c) i then 1 else 0 := by
  rw [(AP_perm hb hF).count_eq]
  have hn : ((List.range c.length).filter (kp (LV b c))).Nodup := List.Pairwise.filter _ List.nodup_range
  rw [hn.count]
  cases h : kp (LV b c) i with
  | true => rw [if_pos (List.mem_filter.2 ⟨List.mem_range.2 hi, h⟩)]; rfl
  | false => rw [if_neg (fun hm => by have := (List.mem_filter.1 hm).2; rw [h] at this; cases this)]; rfl
/-- A sequence's places rise, are kept and have its level. -/
theorem sq_places (hb : b = 0 ∨ b = 1) (hF : Formed c) {k : Nat} (hk : k < (RS (LV b c)).length) :
    (sq b (LV b c) (Iso.MT c) (RS (LV b c)) k).places.Pairwise (· < ·) ∧ ∀ i ∈ (sq b (LV b c) (Iso.MT c) (RS (LV b c)) k).places, i < c.length ∧ (LV b c).getD i 0 = (sq b (LV b c) (Iso.MT c) (RS (LV b c)) k).lvl := by
  have hR := runs_of (LV b c)
  obtain ⟨s1, s2⟩ := chn_sorted (fo_up hb hF) ((RS (LV b c)).length - k) k hk
  have hlv : ∀ f c' a, f = fo (Iso.MT c) (RS (LV b c)) → a < (RS (LV b c)).length → ∀ j ∈ chn f c' a, lvl (LV b c) (RS (LV b c)) j = lvl (LV b c) (RS (LV b c)) a := by
    intro f c'
    induction c' with
    | zero => intro a _ _ j hj; simp [chn] at hj
    | succ c' ih =>
      intro a hfe ha j hj
      rw [chn_succ] at hj
      rcases List.mem_cons.1 hj with rfl | hj
      · rfl
      · cases h : f a with
        | none => rw [h] at hj; simp at hj
        | some q =>
          rw [h] at hj
          subst hfe
          rw [ih q rfl (fo_some hb hF ha h).2.1 j hj, fo_lvl hb hF ha h]
  constructor
  · show (plc _ _).Pairwise _
    unfold plc
    rw [List.pairwise_flatMap]
    refine ⟨fun a ha => ?_, s1.imp_of_mem fun {a a'} ha ha' hlt x hx y hy => ?_⟩
    · have haN := (s2 a ha).2
      rw [List.pairwise_iff_getElem]
      intro i j hi hj hij
      have := run_lt hR haN j i hij hj
      simpa [List.getD, hi, hj] using this
    · have haN' := (s2 a' ha').2
      obtain ⟨i, hi, rfl⟩ := List.mem_iff_getElem.1 hx
      obtain ⟨j, hj, rfl⟩ := List.mem_iff_getElem.1 hy
      have h1 := (run_le hR (show a < (RS (LV b c)).length by omega) hi).2
      have h2 := (run_le hR haN' hj).1
      have h3 := lst_fst hR a' a hlt haN'
      rw [show (rn (RS (LV b c)) a).getD i 0 = (rn (RS (LV b c)) a)[i] from by simp [List.getD, hi]] at h1
      rw [show (rn (RS (LV b c)) a').getD j 0 = (rn (RS (LV b c)) a')[j] from by simp [List.getD, hj]] at h2
      omega
  · intro i hi
    obtain ⟨a, ha, hi⟩ := List.mem_flatMap.1 hi
    have haN := (s2 a ha).2
    obtain ⟨m, hm, rfl⟩ := List.mem_iff_getElem.1 hi
    have h1 := hR.kept a m haN hm
    rw [show (rn (RS (LV b c)) a).getD m 0 = (rn (RS (LV b c)) a)[m] from by simp [List.getD, hm], Ex.LV_len] at h1
    exact ⟨h1.1, by rw [h1.2.2]; exact hlv _ _ k rfl hk a ha⟩
end
/-- How often each place has been seen. -/
def CL (n : Nat) (l : List Nat) : List Int := (List.range n).map fun i => (l.count i : Int)
theorem CL_len (n : Nat) (l : List Nat) : (CL n l).length = n := by simp [CL]
theorem CL_at (n : Nat) (l : List Nat) (i : Nat) (h : i < n) : (CL n l).getD i 0 = (l.count i : Int) := by simp [CL, List.getD, h]
theorem CL_nil (n : Nat) : CL n [] = List.replicate n 0 := by
  apply List.ext_getElem
  · simp [CL]
  · intro i h1 h2; simp [CL]
theorem CL_snoc (n : Nat) (l : List Nat) (x : Nat) : CL n (l ++ [x]) = (CL n l).set x ((l.count x : Int) + 1) := by
  apply List.ext_getElem
  · simp [CL]
  · intro i h1 h2
    rw [List.getElem_set]
    simp only [CL, List.getElem_map, List.getElem_range, List.count_append]
    by_cases h : x = i
    · subst h; simp
    · rw [if_neg h]
      have : ([x] : List Nat).count i = 0 := by rw [List.count_eq_zero]; simp; exact fun e => h e.symm
      rw [this]; simp
end Go.Proofs.Ythohbiklnknofaa.Rn
