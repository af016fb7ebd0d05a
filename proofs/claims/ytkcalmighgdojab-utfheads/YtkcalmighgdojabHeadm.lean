/- Plain mathematics: of a text the heads are counted, and a cut ends ahead of one. -/
import Derived.Test.YtkcalmighgdojabCutm
namespace Go.Proofs.Ytkcalmighgdojab
set_option linter.unusedVariables false
namespace Utf
/-- A byte that is not from 128 to 191. -/
def isHead (x : Int) : Bool := decide (x < 128) || decide (191 < x)
def heads (l : List Int) : Nat := l.countP isHead
theorem form_heads {v : Int} (h : size v ≠ 0) : ∃ x t, form v = x :: t ∧ isHead x = true ∧ ∀ y ∈ t, isHead y = false := by
  have hs := size_cases v
  unfold form isHead
  repeat' split
  all_goals (refine ⟨_, _, rfl, ?_, ?_⟩)
  all_goals simp
  all_goals omega
theorem heads_form {v : Int} (h : size v ≠ 0) (rest : List Int) : heads (form v ++ rest) = 1 + heads rest := by
  obtain ⟨x, t, e, hx, ht⟩ := form_heads h
  have h0 : t.countP isHead = 0 := List.countP_eq_zero.2 (fun y hy => by simp [ht y hy])
  rw [e]
  simp only [heads, List.cons_append, List.countP_cons, List.countP_append, hx, h0]
  simp
  omega
theorem heads_enc : ∀ l : List Int, (∀ x ∈ l, size x ≠ 0) → heads (enc l) = l.length
  | [], _ => rfl
  | v :: l, h => by
    rw [show enc (v :: l) = form v ++ enc l from rfl, heads_form (h v (by simp)), heads_enc l (fun x hx => h x (by simp [hx])), List.length_cons]
    omega
theorem heads_text {xs : List Int} (hb : Bytes xs) (hw : (dec xs).2 = xs.length) : (dec xs).1.length = heads xs := by
  obtain ⟨e1, e2⟩ := enc_dec xs.length xs (Nat.le_refl _) hb
  rw [hw, List.take_length] at e1
  have := heads_enc _ e2
  rw [e1] at this
  exact this.symm
theorem heads_snoc (l : List Int) (k : Nat) (h : k < l.length) : heads (l.take (k + 1)) = heads (l.take k) + (if isHead (l.getD k 0) = true then 1 else 0) := by
  rw [take_snoc l k h]
  simp only [heads, List.countP_append, List.countP_cons, List.countP_nil]
  omega
/-- Where a cut of a text ends: ahead of a form that reaches beyond, or at its end. -/
theorem cut_ends : ∀ (n : Nat) (xs : List Int), xs.length ≤ n → Bytes xs → (dec xs).2 = xs.length → ∀ m : Nat,
    (dec (xs.take m)).2 = xs.length ∨ ((read (xs.drop (dec (xs.take m)).2)).2 ≠ 0 ∧ (dec (xs.take m)).2 ≤ m ∧ m < (dec (xs.take m)).2 + (read (xs.drop (dec (xs.take m)).2)).2.toNat) := by
  intro n
  induction n with
  | zero => intro xs h _ _ m; obtain rfl : xs = [] := List.length_eq_zero_iff.1 (by omega); left; simp [dec_nil]
  | succ n ih =>
    intro xs h hb hw m
    have hbd := read_bounds xs
    by_cases h0 : (read xs).2 = 0
    · left
      rw [dec_stop h0] at hw
      obtain rfl : xs = [] := List.length_eq_zero_iff.1 hw.symm
      simp [dec_nil]
    · by_cases hm : (read xs).2.toNat ≤ m
      · have hr := read_take hb h0 hm
        have hd : dec (xs.take m) = ((read xs).1 :: (dec ((xs.drop (read xs).2.toNat).take (m - (read xs).2.toNat))).1, (read xs).2.toNat + (dec ((xs.drop (read xs).2.toNat).take (m - (read xs).2.toNat))).2) := by
          rw [dec_step (by rw [hr]; exact h0), hr, List.drop_take]
        rw [dec_step h0] at hw
        simp only at hw
        have hlen : (xs.drop (read xs).2.toNat).length = xs.length - (read xs).2.toNat := List.length_drop
        have := ih (xs.drop (read xs).2.toNat) (by omega) (hb.drop _) (by omega) (m - (read xs).2.toNat)
        rw [hd]
        simp only
        rcases this with e | ⟨e1, e2, e3⟩
        · left; omega
        · right
          rw [List.drop_drop] at e1 e3
          exact ⟨e1, by omega, by omega⟩
      · right
        have hz := read_cut (q := m) hb (.inr (by omega))
        rw [dec_stop hz]
        simp only [List.drop_zero]
        exact ⟨h0, Nat.zero_le _, by omega⟩
/-- The bytes at such a place: a head, and none behind it up to the form's end. -/
theorem head_at {xs : List Int} (hb : Bytes xs) {c : Nat} (h0 : (read (xs.drop c)).2 ≠ 0) :
    c + (read (xs.drop c)).2.toNat ≤ xs.length ∧ isHead (xs.getD c 0) = true ∧ ∀ i, c < i → i < c + (read (xs.drop c)).2.toNat → isHead (xs.getD i 0) = false := by
  obtain ⟨e1, e2⟩ := form_read h0 (hb.drop c)
  have hbd := read_bounds (xs.drop c)
  rw [List.length_drop] at hbd
  obtain ⟨x, t, e, hx, ht⟩ := form_heads (v := (read (xs.drop c)).1) (by omega)
  have hfl := form_length (v := (read (xs.drop c)).1) (by omega)
  have get : ∀ i, i < (read (xs.drop c)).2.toNat → xs.getD (c + i) 0 = (x :: t).getD i 0 := by
    intro i hi
    rw [← e, e1, getD_take hi]
    simp [List.getD]
  have hxt : (x :: t).length = (read (xs.drop c)).2.toNat := by rw [← e]; omega
  refine ⟨by omega, ?_, ?_⟩
  · have := get 0 (by omega)
    rw [Nat.add_zero] at this
    rw [this]
    exact hx
  · intro i h1 h2
    have := get (i - c) (by omega)
    rw [show c + (i - c) = i from by omega] at this
    rw [this]
    obtain ⟨j, hj⟩ : ∃ j, i - c = j + 1 := ⟨i - c - 1, by omega⟩
    rw [hj]
    have hjt : j < t.length := by simp only [List.length_cons] at hxt; omega
    have : (x :: t).getD (j + 1) 0 = t[j] := by simp [List.getD, List.getElem?_eq_getElem hjt]
    rw [this]
    exact ht _ (List.getElem_mem _)
end Utf
end Go.Proofs.Ytkcalmighgdojab
