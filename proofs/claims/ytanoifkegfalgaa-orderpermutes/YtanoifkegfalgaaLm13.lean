/- A line's levels as the program goes through them, from the end: plain mathematics. -/
import Derived.Test.YtanoifkegfalgaaOl
import Derived.Test.YtanoifkegfalgaaLists
namespace Go.Proofs.Ytanoifkegfalgaa
set_option linter.unusedVariables false
namespace Od
/-- Behind d places from the end: is all blank between here and what ends a stretch? -/
def txt (c l : List Int) (n : Nat) : Nat → Bool
  | 0 => true
  | d + 1 => if txt c l n d = true then l.getD (n - (d + 1)) 0 == -1 || (sep (c.getD (n - (d + 1)) 0) || loose (c.getD (n - (d + 1)) 0)) else l.getD (n - (d + 1)) 0 != -1 && sep (c.getD (n - (d + 1)) 0)
/-- A place's level in the line. -/
def lx (c l : List Int) (base : Int) (n i : Nat) : Int := if ¬ l.getD i 0 = -1 ∧ (sep (c.getD i 0) = true ∨ (txt c l n (n - 1 - i) = true ∧ loose (c.getD i 0) = true)) then base else l.getD i 0
/-- The line, as far as it is gone through from the end. -/
def LX (c l : List Int) (base : Int) (n k : Nat) : List Int := (List.range n).map fun i => if k ≤ i then lx c l base n i else l.getD i 0
section
variable {c l : List Int} {base : Int} {n : Nat}
theorem LX_len (k : Nat) : (LX c l base n k).length = n := by simp [LX]
theorem LX_at {k i : Nat} (h : i < n) : (LX c l base n k).getD i 0 = if k ≤ i then lx c l base n i else l.getD i 0 := by simp [LX, List.getD, h]
theorem LX_start (h : l.length = n) : LX c l base n n = l := by
  refine List.ext_getElem (by simp [LX, h]) fun i h1 h2 => ?_
  simp only [LX, List.getElem_map, List.getElem_range]
  rw [if_neg (by omega)]
  simp [List.getD, h2]
theorem LX_same {i : Nat} (h : i < n) (he : lx c l base n i = l.getD i 0) : LX c l base n i = LX c l base n (i + 1) := by
  unfold LX
  refine List.map_congr_left fun j _ => ?_
  by_cases e : j = i
  · subst e
    rw [if_pos (Nat.le_refl _), if_neg (by omega), he]
  · by_cases h1 : i ≤ j
    · rw [if_pos h1, if_pos (by omega)]
    · rw [if_neg h1, if_neg (by omega)]
theorem LX_set {i : Nat} (h : i < n) (he : lx c l base n i = base) : (LX c l base n (i + 1)).set i base = LX c l base n i := by
  refine List.ext_getElem (by simp [LX]) fun j h1 h2 => ?_
  rw [List.getElem_set]
  simp only [LX, List.getElem_map, List.getElem_range]
  by_cases e : i = j
  · subst e
    rw [if_pos rfl, if_pos (Nat.le_refl _), he]
  · rw [if_neg e]
    by_cases h3 : i ≤ j
    · rw [if_pos h3, if_pos (by omega)]
    · rw [if_neg h3, if_neg (by omega)]
theorem txt_next {i : Nat} (h : i < n) : txt c l n (n - i) = if txt c l n (n - (i + 1)) = true then l.getD i 0 == -1 || (sep (c.getD i 0) || loose (c.getD i 0)) else l.getD i 0 != -1 && sep (c.getD i 0) := by
  have e : n - i = (n - (i + 1)) + 1 := by omega
  rw [e, txt, show n - (n - (i + 1) + 1) = i by omega]
theorem lx_of {i : Nat} (h : i < n) : lx c l base n i = if ¬ l.getD i 0 = -1 ∧ (sep (c.getD i 0) = true ∨ (txt c l n (n - (i + 1)) = true ∧ loose (c.getD i 0) = true)) then base else l.getD i 0 := by
  unfold lx
  rw [show n - 1 - i = n - (i + 1) by omega]
/-- What is not seen. -/
theorem go_unseen {i : Nat} (h : i < n) (hl : l.getD i 0 = -1) : LX c l base n i = LX c l base n (i + 1) ∧ txt c l n (n - i) = txt c l n (n - (i + 1)) := by
  refine ⟨LX_same h ?_, ?_⟩
  · rw [lx_of h, if_neg (fun q => q.1 hl)]
  · rw [txt_next h, hl]
    by_cases ht : txt c l n (n - (i + 1)) = true
    · rw [if_pos ht, ht]; rfl
    · rw [if_neg ht, (Bool.not_eq_true _).mp ht]; rfl
/-- A separator that is seen. -/
theorem go_sep {i : Nat} (h : i < n) (hl : ¬ l.getD i 0 = -1) (hs : sep (c.getD i 0) = true) : (LX c l base n (i + 1)).set i base = LX c l base n i ∧ txt c l n (n - i) = true := by
  refine ⟨LX_set h ?_, ?_⟩
  · rw [lx_of h, if_pos ⟨hl, .inl hs⟩]
  · rw [txt_next h, hs]
    split
    · simp
    · simpa using hl
/-- A blank ahead of the end of a stretch. -/
theorem go_loose {i : Nat} (h : i < n) (hl : ¬ l.getD i 0 = -1) (hs : loose (c.getD i 0) = true) (ht : txt c l n (n - (i + 1)) = true) : (LX c l base n (i + 1)).set i base = LX c l base n i ∧ txt c l n (n - i) = true := by
  refine ⟨LX_set h ?_, ?_⟩
  · rw [lx_of h, if_pos ⟨hl, .inr ⟨ht, hs⟩⟩]
  · rw [txt_next h, if_pos ht, hs]
    simp
/-- What is neither, or stands ahead of something that is neither. -/
theorem go_text {i : Nat} (h : i < n) (hl : ¬ l.getD i 0 = -1) (hs : sep (c.getD i 0) = false) (ht : txt c l n (n - (i + 1)) = false ∨ loose (c.getD i 0) = false) : LX c l base n i = LX c l base n (i + 1) ∧ txt c l n (n - i) = false := by
  have hs2 : ¬ sep (c.getD i 0) = true := by rw [hs]; exact Bool.false_ne_true
  refine ⟨LX_same h ?_, ?_⟩
  · rw [lx_of h, if_neg]
    rintro ⟨_, q | ⟨q1, q2⟩⟩
    · exact hs2 q
    · rcases ht with ht | ht
      · rw [ht] at q1; cases q1
      · rw [ht] at q2; cases q2
  · rw [txt_next h, hs]
    split
    · rename_i h1
      rcases ht with ht | ht
      · rw [ht] at h1; cases h1
      · rw [ht]; simpa using hl
    · simp
theorem lx_or (i : Nat) : lx c l base n i = l.getD i 0 ∨ (lx c l base n i = base ∧ ¬ l.getD i 0 = -1) := by
  unfold lx
  split
  · rename_i h; exact .inr ⟨rfl, h.1⟩
  · exact .inl rfl
theorem lx_keeps {i : Nat} (h : sep (c.getD i 0) = false) (h2 : loose (c.getD i 0) = false) : lx c l base n i = l.getD i 0 := by
  unfold lx
  rw [h, h2]
  simp
theorem lx_sep {i : Nat} (h : sep (c.getD i 0) = true) (h1 : ¬ l.getD i 0 = -1) : lx c l base n i = base := by
  unfold lx
  rw [if_pos ⟨h1, .inl h⟩]
theorem lx_last (hn : 0 < n) (h : loose (c.getD (n - 1) 0) = true) (h1 : ¬ l.getD (n - 1) 0 = -1) : lx c l base n (n - 1) = base := by
  unfold lx
  rw [if_pos]
  refine ⟨h1, .inr ⟨?_, h⟩⟩
  rw [Nat.sub_self]
  rfl
end
end Od
end Go.Proofs.Ytanoifkegfalgaa
