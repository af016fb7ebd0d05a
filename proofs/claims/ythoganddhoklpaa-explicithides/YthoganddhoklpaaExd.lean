/- Explicit levels: embeddings, one within another, and as many ends; plain mathematics. -/
import Derived.Test.YthoganddhoklpaaExp
namespace Go.Proofs.Ythoganddhoklpaa.Ex
set_option linter.unusedVariables false
theorem step_rest (s : St) {x : Int} (r r' : List Int) (h : ¬ x = 22) : step s x r = step s x r' := by
  unfold step wo
  rw [if_neg h, if_neg h]
theorem at_left (s : St) (a r : List Int) (h : ∀ x ∈ a, ¬ x = 22) : ∀ k, k ≤ a.length → at' s (a ++ r) k = at' s a k := by
  intro k
  induction k with
  | zero => intro _; rfl
  | succ k ih =>
    intro hk
    rw [at_succ, at_succ, ih (by omega), getD_left a r k (by omega)]
    have hx : a.getD k 0 = a[k]'(by omega) := by simp [List.getD, List.getElem?_eq_getElem (show k < a.length by omega)]
    exact step_rest _ _ _ (by rw [hx]; exact h _ (List.getElem_mem _))
/-- Embeddings, the last level l, oe of them overflow. -/
structure DF (es : List Int) (l : Int) (oe : Nat) : Prop where
  all : ∀ x ∈ es, x = 15 ∨ x = 17
  st : ∃ st, at' (s0 0) es es.length = ⟨st, 0, oe, 0⟩ ∧ (hd st).lv = l ∧ st.length + oe = es.length + 1
theorem DF.no22 {es : List Int} {l : Int} {oe : Nat} (h : DF es l oe) : ∀ x ∈ es, ¬ x = 22 := fun x hx => by rcases h.all x hx with rfl | rfl <;> decide
theorem DF.range {es : List Int} {l : Int} {oe : Nat} (h : DF es l oe) : 0 ≤ l ∧ l ≤ 125 := by
  obtain ⟨st, h1, h2, _⟩ := h.st
  have hok := Ok.at (b := 0) es es.length
  rw [h1] at hok
  rw [← h2]
  exact ⟨hok.ch.lo, hok.ch.hi (by decide)⟩
theorem DF.nil : DF [] 0 0 := ⟨by simp, [bot 0], rfl, rfl, rfl⟩
theorem at_snoc (s : St) (es : List Int) (x : Int) (h : ∀ y ∈ es, ¬ y = 22) : at' s (es ++ [x]) (es ++ [x]).length = step (at' s es es.length) x [] := by
  rw [List.length_append, List.length_singleton, at_succ, at_left s es [x] h _ (Nat.le_refl _)]
  have e1 : (es ++ [x]).getD es.length 0 = x := by simp [List.getD]
  have e2 : (es ++ [x]).drop (es.length + 1) = [] := List.drop_eq_nil_of_le (by simp)
  rw [e1, e2]
def cls (right : Bool) : Int := if right then 17 else 15
theorem cls_em (right : Bool) : em (cls right) = true ∧ odd (cls right) = right := by cases right <;> decide
theorem all_snoc {es : List Int} {x : Int} (h : ∀ x ∈ es, x = 15 ∨ x = 17) (hx : x = 15 ∨ x = 17) : ∀ y ∈ es ++ [x], y = 15 ∨ y = 17 := by
  intro y hy
  rcases List.mem_append.1 hy with hy | hy
  · exact h y hy
  · rw [List.mem_singleton.1 hy]; exact hx
theorem cls_two (right : Bool) : cls right = 15 ∨ cls right = 17 := by cases right <;> decide
theorem DF.push {es : List Int} {l : Int} (h : DF es l 0) (right : Bool) (hn : nl l right ≤ 125) : DF (es ++ [cls right]) (nl l right) 0 := by
  obtain ⟨st, h1, h2, h3⟩ := h.st
  refine ⟨all_snoc h.all (cls_two right), ⟨nl l right, ovr (cls right), false⟩ :: st, ?_, rfl, by simp; omega⟩
  rw [at_snoc _ _ _ h.no22, h1, step_em _ _ _ (cls_em right).1, emb, (cls_em right).2, if_pos (can_mk (by rw [h2]; exact hn) rfl rfl), h2]
theorem DF.over {es : List Int} {l : Int} (h : DF es l 0) (right : Bool) (hn : 125 < nl l right) : DF (es ++ [cls right]) l 1 := by
  obtain ⟨st, h1, h2, h3⟩ := h.st
  refine ⟨all_snoc h.all (cls_two right), st, ?_, h2, by simp; omega⟩
  rw [at_snoc _ _ _ h.no22, h1, step_em _ _ _ (cls_em right).1, emb, (cls_em right).2, if_neg (by rw [can_lv (by rw [h2]; exact hn)]; decide), if_pos rfl]
theorem DF.more {es : List Int} {l : Int} {oe : Nat} (h : DF es l (oe + 1)) : DF (es ++ [17]) l (oe + 2) := by
  obtain ⟨st, h1, h2, h3⟩ := h.st
  refine ⟨all_snoc h.all (.inr rfl), st, ?_, h2, by simp; omega⟩
  rw [at_snoc _ _ _ h.no22, h1, step_em _ _ _ (by decide), emb, if_neg (by rw [can_oe (by simp)]; decide), if_pos rfl]
/-- With a letter and j ends behind. -/
def dl (es : List Int) (j : Nat) : List Int := es ++ 1 :: List.replicate j 19
theorem dl_zero (es : List Int) : dl es 0 = es ++ [1] := rfl
theorem dl_succ (es : List Int) (j : Nat) : dl es (j + 1) = dl es j ++ [19] := by
  unfold dl
  rw [List.replicate_succ', List.append_assoc]
  rfl
theorem dl_len (es : List Int) (j : Nat) : (dl es j).length = es.length + 1 + j := by simp [dl]; omega
theorem dl_mem {es : List Int} {j : Nat} {x : Int} (h : x ∈ dl es j) : x ∈ es ∨ x = 1 ∨ x = 19 := by
  unfold dl at h
  rcases List.mem_append.1 h with h | h
  · exact .inl h
  · rcases List.mem_cons.1 h with h | h
    · exact .inr (.inl h)
    · exact .inr (.inr (List.eq_of_mem_replicate h))
theorem DF.dl22 {es : List Int} {l : Int} {oe : Nat} (h : DF es l oe) (j : Nat) : ∀ x ∈ dl es j, ¬ x = 22 := by
  intro x hx
  rcases dl_mem hx with h1 | h1 | h1
  · exact h.no22 x h1
  · rw [h1]; decide
  · rw [h1]; decide
theorem cn_drop {l : List Ent} (h : cn l = 0) (m : Nat) : cn (l.drop m) = 0 := by
  have := cn_append (l.take m) (l.drop m)
  rw [List.take_append_drop] at this
  omega
theorem hd_is {l : List Ent} (h : cn l = 0) : (hd l).is = false := by
  cases l with
  | nil => rfl
  | cons e r =>
    cases he : e.is with
    | false => exact he
    | true => simp [cn, he] at h
theorem DF.ends {es : List Int} {l : Int} {oe : Nat} (h : DF es l oe) : ∃ st, (hd st).lv = l ∧ st.length + oe = es.length + 1 ∧ Chain 0 st ∧ ∀ j, j ≤ es.length → at' (s0 0) (dl es j) (dl es j).length = ⟨st.drop (j - oe), 0, oe - j, 0⟩ := by
  obtain ⟨st, h1, h2, h3⟩ := h.st
  have hok := Ok.at (b := 0) es es.length
  rw [h1] at hok
  have hcn : cn st = 0 := hok.va.symm
  refine ⟨st, h2, h3, hok.ch, ?_⟩
  intro j
  induction j with
  | zero =>
    intro _
    rw [dl_zero, at_snoc _ _ _ h.no22, h1, Nat.zero_sub]
    rfl
  | succ j ih =>
    intro hj
    rw [dl_succ, at_snoc _ _ _ (h.dl22 j), ih (by omega), step_pdf, pdf]
    rw [if_neg (by simp)]
    by_cases ho : j < oe
    · rw [if_pos (by simp only; omega)]
      simp only [St.mk.injEq, true_and, and_true]
      rw [show j - oe = 0 from by omega, show j + 1 - oe = 0 from by omega]
      exact ⟨rfl, by omega⟩
    · rw [if_neg (by simp only; omega), if_pos ⟨hd_is (cn_drop hcn _), by simp; omega⟩]
      simp only [St.mk.injEq, true_and, and_true, List.tail_drop]
      rw [show j - oe + 1 = j + 1 - oe from by omega]
      exact ⟨rfl, by omega⟩
/-- All of it. -/
def dc (es : List Int) : List Int := dl es es.length ++ [2]
theorem dc_len (es : List Int) : (dc es).length = 2 * es.length + 2 := by simp [dc, dl_len]; omega
theorem kept_lev {b : Int} {s : St} {c : List Int} {k : Nat} {x : Int} (hx : c.getD k 0 = x) (h : x = 1 ∨ x = 2) : lev b s c k = (hd (at' s c k).st).lv := by
  unfold lev
  rw [hx]
  rcases h with rfl | rfl <;> rfl
theorem DF.mid {es : List Int} {l : Int} {oe : Nat} (h : DF es l oe) : lev 0 (s0 0) (dc es) es.length = l := by
  obtain ⟨st, h1, h2, _⟩ := h.st
  have e : dc es = es ++ (1 :: List.replicate es.length 19 ++ [2]) := by simp [dc, dl]
  have hx : (dc es).getD es.length 0 = 1 := by
    rw [e]
    have := getD_right es (1 :: List.replicate es.length 19 ++ [2]) 0
    rw [Nat.add_zero] at this
    rw [this]
    rfl
  rw [kept_lev hx (.inl rfl), e, at_left _ _ _ h.no22 _ (Nat.le_refl _), h1]
  exact h2
theorem DF.last {es : List Int} {l : Int} {oe : Nat} (h : DF es l oe) : lev 0 (s0 0) (dc es) (2 * es.length + 1) = 0 := by
  obtain ⟨st, h2, h3, h4, h5⟩ := h.ends
  have hl : (dl es es.length).length = 2 * es.length + 1 := by rw [dl_len]; omega
  have hx : (dc es).getD (2 * es.length + 1) 0 = 2 := by
    unfold dc
    rw [← hl]
    have := getD_right (dl es es.length) [2] 0
    rw [Nat.add_zero] at this
    rw [this]
    rfl
  rw [kept_lev hx (.inr rfl)]
  unfold dc
  rw [at_left _ _ _ (h.dl22 _) _ (by omega), ← hl, h5 es.length (Nat.le_refl _)]
  obtain ⟨r, rfl⟩ := h4.last
  have hr : es.length - oe = r.length := by simp at h3; omega
  simp only [hr, List.drop_left]
  rfl
theorem DF.formed {es : List Int} {l : Int} {oe : Nat} (h : DF es l oe) : Formed (dc es) := by
  intro i hi
  have hx : (dc es).getD i 0 = (dc es)[i] := by simp [List.getD, List.getElem?_eq_getElem hi]
  have hm : (dc es)[i] ∈ dc es := List.getElem_mem _
  have key : ∀ x ∈ dc es, 1 ≤ x ∧ x ≤ 23 ∧ (x = 11 → i + 1 = (dc es).length) := by
    intro x hx
    unfold dc at hx
    rcases List.mem_append.1 hx with h1 | h1
    · rcases dl_mem h1 with h2 | h2 | h2
      · rcases h.all x h2 with rfl | rfl <;> exact ⟨by decide, by decide, fun h => absurd h (by decide)⟩
      · subst h2; exact ⟨by decide, by decide, fun h => absurd h (by decide)⟩
      · subst h2; exact ⟨by decide, by decide, fun h => absurd h (by decide)⟩
    · rw [List.mem_singleton.1 h1]; exact ⟨by decide, by decide, fun h => absurd h (by decide)⟩
  rw [hx]
  exact key _ hm
end Go.Proofs.Ythoganddhoklpaa.Ex
