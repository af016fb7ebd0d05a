/- Explicit levels: what an isolate leaves behind; plain paragraphs; plain mathematics. -/
import Derived.Test.YthohbiklnknofaaEx
namespace Go.Proofs.Ythohbiklnknofaa.Ex
set_option linter.unusedVariables false
theorem cn_append (E T : List Ent) : cn (E ++ T) = cn E + cn T := by
  induction E with
  | nil => simp [cn]
  | cons e r ih => rw [List.cons_append, cn, cn, ih]; omega
theorem pi_pos {E : List Ent} (T : List Ent) (h : 0 < cn E) : ∃ E', pi (E ++ T) = E' ++ T ∧ cn E' + 1 = cn E := by
  induction E with
  | nil => simp [cn] at h
  | cons e r ih =>
    cases he : e.is with
    | true => exact ⟨r, by simp [pi, he], by simp [cn, he]; omega⟩
    | false =>
      obtain ⟨E', h1, h2⟩ := ih (by simpa [cn, he] using h)
      exact ⟨E', by simpa [pi, he] using h1, by simpa [cn, he] using h2⟩
theorem pi_zero {E : List Ent} {e0 : Ent} (T : List Ent) (h : cn E = 0) (h0 : e0.is = true) : pi (E ++ e0 :: T) = T := by
  induction E with
  | nil => simp [pi, h0]
  | cons e r ih =>
    cases he : e.is with
    | true => simp [cn, he] at h
    | false => simp only [List.cons_append, pi, he]; exact ih (by simpa [cn, he] using h)
/-- Within an isolate that began at S0, d others open within it. -/
def In (S0 : St) (e0 : Ent) (v : Bool) (S : St) (d : Nat) : Prop :=
  (v = true ∧ ∃ E, S.st = E ++ e0 :: S0.st ∧ S.oi + cn E = d ∧ S.va = S0.va + 1 + cn E) ∨ (v = false ∧ S = ⟨S0.st, S0.oi + 1 + d, S0.oe, S0.va⟩)
theorem In.emb {S0 : St} {e0 : Ent} {v : Bool} {S : St} {d : Nat} (h : In S0 e0 v S d) (x : Int) : In S0 e0 v (emb S x) d := by
  rcases h with ⟨hv, E, h1, h2, h3⟩ | ⟨hv, rfl⟩
  · refine .inl ⟨hv, ?_⟩
    unfold Ex.emb
    split
    · exact ⟨_ :: E, by simp only [h1]; rfl, by simp only [cn]; simpa using h2, by simp only [cn]; simpa using h3⟩
    · split
      · exact ⟨E, h1, h2, h3⟩
      · exact ⟨E, h1, h2, h3⟩
  · refine .inr ⟨hv, ?_⟩
    unfold Ex.emb
    rw [if_neg (by rw [can_oi (by simp only; omega)]; decide), if_neg (by simp only; omega)]
theorem In.iso {S0 : St} {e0 : Ent} {v : Bool} {S : St} {d : Nat} (h : In S0 e0 v S d) (o : Bool) : In S0 e0 v (iso S o) (d + 1) := by
  rcases h with ⟨hv, E, h1, h2, h3⟩ | ⟨hv, rfl⟩
  · refine .inl ⟨hv, ?_⟩
    unfold Ex.iso
    split
    · refine ⟨_ :: E, by simp only [h1]; rfl, ?_, ?_⟩
      · simp only [cn, if_true]; omega
      · simp only [cn, if_true]; omega
    · exact ⟨E, h1, by simp only; omega, h3⟩
  · refine .inr ⟨hv, ?_⟩
    unfold Ex.iso
    rw [if_neg (by rw [can_oi (by simp only; omega)]; decide)]
    simp only [St.mk.injEq, true_and, and_true]
    omega
theorem In.pdf {S0 : St} {e0 : Ent} {v : Bool} {S : St} {d : Nat} (h : In S0 e0 v S d) (h0 : e0.is = true) : In S0 e0 v (pdf S) d := by
  rcases h with ⟨hv, E, h1, h2, h3⟩ | ⟨hv, rfl⟩
  · refine .inl ⟨hv, ?_⟩
    unfold Ex.pdf
    split
    · exact ⟨E, h1, h2, h3⟩
    · split
      · exact ⟨E, h1, h2, h3⟩
      · split
        · rename_i hc
          cases E with
          | nil => rw [h1] at hc; simp [hd, h0] at hc
          | cons e r =>
            have he : e.is = false := by rw [h1] at hc; exact hc.1
            refine ⟨r, by simp only [h1]; rfl, ?_, ?_⟩
            · simp only [cn, he] at h2; simpa using h2
            · simp only [cn, he] at h3; simpa using h3
        · exact ⟨E, h1, h2, h3⟩
  · refine .inr ⟨hv, ?_⟩
    unfold Ex.pdf
    rw [if_pos (by simp only; omega)]
theorem In.pdi {S0 : St} {e0 : Ent} {v : Bool} {S : St} {d : Nat} (h : In S0 e0 v S (d + 1)) : In S0 e0 v (pdi S) d := by
  rcases h with ⟨hv, E, h1, h2, h3⟩ | ⟨hv, rfl⟩
  · refine .inl ⟨hv, ?_⟩
    unfold Ex.pdi
    split
    · exact ⟨E, h1, by simp only; omega, h3⟩
    · rw [if_neg (by omega)]
      obtain ⟨E', g1, g2⟩ := pi_pos (e0 :: S0.st) (E := E) (by omega)
      exact ⟨E', by simp only [h1]; exact g1, by simp only; omega, by simp only; omega⟩
  · refine .inr ⟨hv, ?_⟩
    unfold Ex.pdi
    rw [if_pos (by simp only; omega)]
    simp only [St.mk.injEq, true_and, and_true]
    omega
theorem In.out {S0 : St} {e0 : Ent} {v : Bool} {S : St} (h : In S0 e0 v S 0) (h0 : e0.is = true) (hv : v = true → S0.oi = 0 ∧ S0.oe = 0) : Ex.pdi S = S0 := by
  rcases h with ⟨h4, E, h1, h2, h3⟩ | ⟨h4, rfl⟩
  · unfold Ex.pdi
    rw [if_neg (by omega), if_neg (by omega), h1, pi_zero _ (by omega) h0]
    obtain ⟨g1, g2⟩ := hv h4
    obtain ⟨st, oi, oe, va⟩ := S0
    simp only [St.mk.injEq, true_and] at *
    omega
  · unfold Ex.pdi
    rw [if_pos (by simp only; omega)]
    rfl
theorem In.mid {S0 : St} {e0 : Ent} {v : Bool} {S : St} {d : Nat} (h : In S0 e0 v S d) (h0 : e0.is = true) (x : Int) (hx : ¬ x = 23) : In S0 e0 v (mid S x) d := by
  unfold Ex.mid
  split
  · exact h.emb x
  · split
    · exact h.pdf h0
    · exact h
theorem In.begin (S0 : St) (o : Bool) : In S0 ⟨nl (hd S0.st).lv o, 0, true⟩ (can S0 o) (Ex.iso S0 o) 0 := by
  cases hc : can S0 o with
  | true => exact .inl ⟨rfl, [], by unfold Ex.iso; rw [if_pos hc]; rfl, by unfold Ex.iso; rw [if_pos hc]; simp [cn, (can_true hc).2.1], by unfold Ex.iso; rw [if_pos hc]; simp [cn]⟩
  | false => exact .inr ⟨rfl, by unfold Ex.iso; rw [if_neg (by rw [hc]; decide)]⟩
/-- AN ISOLATE LEAVES ALL AS IT WAS. -/
theorem at_pair (s : St) {c : List Int} {i : Nat} (h : Iso.st (c.getD i 0) = true) (hn : Iso.partner c i < c.length) : at' s c (Iso.partner c i + 1) = at' s c i := by
  obtain ⟨o, ho⟩ : ∃ o, wo (c.getD i 0) (c.drop (i + 1)) = o := ⟨_, rfl⟩
  have hbeg : at' s c (i + 1) = Ex.iso (at' s c i) o := by rw [at_succ, step, if_pos h, ho]
  have key : ∀ m, i + 1 + m ≤ Iso.partner c i → ∃ d, (Iso.stk c (i + 1 + m)).length = (Iso.stk c i).length + 1 + d ∧ In (at' s c i) ⟨nl (hd (at' s c i).st).lv o, 0, true⟩ (can (at' s c i) o) (at' s c (i + 1 + m)) d := by
    intro m
    induction m with
    | zero => intro _; exact ⟨0, by rw [Nat.add_zero, Iso.stk_init c i h]; simp, by rw [Nat.add_zero, hbeg]; exact In.begin _ _⟩
    | succ m ih =>
      intro hm
      obtain ⟨d, h1, h2⟩ := ih (by omega)
      obtain ⟨l', g1, _⟩ := Iso.stk_mid h (j := i + 1 + (m + 1)) (by omega) hm
      have g2 : (Iso.stk c (i + 1 + (m + 1))).length ≥ (Iso.stk c i).length + 1 := by rw [g1]; simp
      have hnx := Iso.stk_nx c (i + 1 + m)
      rw [show i + 1 + (m + 1) = i + 1 + m + 1 from by omega] at g2 ⊢
      rw [at_succ]
      rw [h1] at hnx
      by_cases hs : Iso.st (c.getD (i + 1 + m) 0) = true
      · refine ⟨d + 1, ?_, ?_⟩
        · rw [hnx, Iso.nx, if_pos hs]; omega
        · rw [step, if_pos hs]; exact h2.iso _
      · rw [step, if_neg hs]
        by_cases hx : c.getD (i + 1 + m) 0 = 23
        · rw [Iso.nx, if_neg hs, if_pos hx] at hnx
          obtain ⟨d', rfl⟩ : ∃ d', d = d' + 1 := ⟨d - 1, by omega⟩
          refine ⟨d', by omega, ?_⟩
          rw [hx]
          exact h2.pdi
        · rw [Iso.nx, if_neg hs, if_neg hx] at hnx
          exact ⟨d, by omega, h2.mid rfl _ hx⟩
  have hg := Iso.partner_gt c i
  obtain ⟨d, h1, h2⟩ := key (Iso.partner c i - (i + 1)) (by omega)
  rw [show i + 1 + (Iso.partner c i - (i + 1)) = Iso.partner c i from by omega] at h1 h2
  obtain ⟨p1, p2, _⟩ := Iso.partner_pdi h hn
  rw [p2] at h1
  obtain rfl : d = 0 := by simp at h1; omega
  rw [at_succ, p1, step_pdi]
  exact h2.out rfl (fun hc => (can_true hc).2)
theorem st_kept {x : Int} (h : Iso.st x = true) : rm x = false ∧ ¬ x = 11 ∧ ¬ x = 1 ∧ ¬ x = 2 := by
  unfold Iso.st at h
  simp only [Bool.or_eq_true, beq_iff_eq] at h
  rcases h with (rfl | rfl) | rfl <;> decide
theorem tl_kept {b : Int} {S : St} {x : Int} (h : rm x = false) (hx : ¬ x = 11) : tl b S x = (hd S.st).lv ∧ ty S x = if (hd S.st).ov = 0 then x else (hd S.st).ov := by
  unfold tl ty
  simp [h, hx]
/-- An initiator and its PDI have one level, and one override. -/
theorem lev_pair (b : Int) (s : St) {c : List Int} {i : Nat} (h : Iso.st (c.getD i 0) = true) (hn : Iso.partner c i < c.length) :
    lev b s c (Iso.partner c i) = lev b s c i ∧ ∃ ov, ov = (hd (at' s c i).st).ov ∧ typ s c i = (if ov = 0 then c.getD i 0 else ov) ∧ typ s c (Iso.partner c i) = (if ov = 0 then 23 else ov) := by
  have hp := at_pair s h hn
  obtain ⟨p1, _, _⟩ := Iso.partner_pdi h hn
  have hm : mid (at' s c (Iso.partner c i)) (c.getD (Iso.partner c i) 0) = at' s c i := by rw [← hp, at_succ, p1]; rfl
  obtain ⟨k1, k2, _⟩ := st_kept h
  have e1 := tl_kept (b := b) (S := at' s c i) k1 k2
  have e2 := tl_kept (b := b) (S := at' s c i) (x := 23) (by decide) (by decide)
  refine ⟨?_, _, rfl, ?_, ?_⟩
  · unfold lev; rw [hm, mid_st h, p1, e1.1, e2.1]
  · unfold typ; rw [mid_st h, e1.2]
  · unfold typ; rw [hm, p1, e2.2]
/-- No embeddings, overrides and initiators ahead of a place. -/
def pl (c : List Int) : Nat → Bool
  | 0 => true
  | k + 1 => pl c k && !(em (c.getD k 0)) && !(Iso.st (c.getD k 0))
theorem mid_s0 {b : Int} {x : Int} (h : em x = false) : mid (s0 b) x = s0 b := by
  unfold mid
  rw [h, if_neg (by decide)]
  split
  · rfl
  · split
    · rfl
    · rfl
theorem pl_at {b : Int} {c : List Int} : ∀ k, pl c k = true → at' (s0 b) c k = s0 b := by
  intro k
  induction k with
  | zero => intro _; rfl
  | succ k ih =>
    intro h
    simp only [pl, Bool.and_eq_true, Bool.not_eq_true'] at h
    rw [at_succ, ih h.1.1, step, if_neg (by rw [h.2]; decide), mid_s0 h.1.2]
theorem pl_mono {c : List Int} {k : Nat} : ∀ m, pl c (k + m) = true → pl c k = true := by
  intro m
  induction m with
  | zero => intro h; exact h
  | succ m ih =>
    intro h
    rw [show k + (m + 1) = k + m + 1 from by omega] at h
    simp only [pl, Bool.and_eq_true] at h
    exact ih h.1.1
theorem pl_lev {b : Int} {c : List Int} {n k : Nat} (h : pl c n = true) (hk : k < n) : (lev b (s0 b) c k = b ∨ lev b (s0 b) c k = -1) ∧ typ (s0 b) c k = c.getD k 0 := by
  have h1 : pl c (k + 1) = true := pl_mono (n - (k + 1)) (by rw [show k + 1 + (n - (k + 1)) = n from by omega]; exact h)
  have h2 : pl c k = true := pl_mono 1 h1
  simp only [pl, Bool.and_eq_true, Bool.not_eq_true'] at h1
  unfold lev typ
  rw [pl_at k h2, mid_s0 h1.1.2]
  generalize c.getD k 0 = x at *
  unfold tl ty
  constructor
  · split
    · exact .inr rfl
    · left
      split
      · rfl
      · rfl
  · split
    · rfl
    · split
      · rfl
      · rfl
end Go.Proofs.Ythohbiklnknofaa.Ex
