/- Plain mathematics of brackets and mirrored ones. No Go in sight. -/
import Derived.Test.YtchpdokjalbpnaaDoorUc
namespace Go.Proofs.YtchpdokjalbpnaaDoor
namespace Ucd
/-- What a map of the brackets tells: the last one that was put. -/
def look (l : List (Int × Int)) (r : Int) (acc : Int × Int) : Int × Int := l.foldl (fun acc p => if r = p.2 then (2, p.1) else if r = p.1 then (1, p.2) else acc) acc
def side (r : Int) : Int × Int := look brackets r (0, 0)
def oth : List (Int × Int) → Int → Option Int
  | [], _ => none
  | p :: t, r => if r = p.1 then some p.2 else if r = p.2 then some p.1 else oth t r
/-- The mirror image, and whether there is one. -/
def mir (r : Int) : Int × Bool := if (side r).1 = 0 then (match oth mirrored r with | some m => (m, true) | none => (0, false)) else ((side r).2, true)
def canon (r : Int) : Int := if r = 9001 then 12296 else if r = 9002 then 12297 else r
def flat2 (l : List (Int × Int)) : List Int := l.flatMap fun p => [p.1, p.2]
def br : List Int := flat2 brackets
def ot : List Int := flat2 mirrored
/-- The first place of a number in a list of pairs, and the one beside it. -/
def part (l : List Int) (r : Int) : Int × Int := match l.findIdx? (· == r) with
  | some i => ((i : Int), if i % 2 = 0 then l.getD (i + 1) 0 else l.getD (i - 1) 0)
  | none => (-1, 0)
theorem look_not : ∀ (l : List (Int × Int)) (r : Int) (acc : Int × Int), r ∉ flat2 l → look l r acc = acc
  | [], _, _, _ => rfl
  | p :: t, r, acc, h => by
    simp only [flat2, List.flatMap_cons, List.mem_append, List.mem_cons, List.not_mem_nil, or_false, not_or] at h
    have := look_not t r acc h.2
    simp only [look, List.foldl_cons] at this ⊢
    rw [if_neg h.1.2, if_neg h.1.1]
    exact this
theorem oth_not : ∀ (l : List (Int × Int)) (r : Int), r ∉ flat2 l → oth l r = none
  | [], _, _ => rfl
  | p :: t, r, h => by
    simp only [flat2, List.flatMap_cons, List.mem_append, List.mem_cons, List.not_mem_nil, or_false, not_or] at h
    rw [oth, if_neg h.1.1, if_neg h.1.2]
    exact oth_not t r h.2
theorem part_not (l : List Int) (r : Int) (h : r ∉ l) : part l r = (-1, 0) := by
  unfold part
  have : l.findIdx? (· == r) = none := by
    rw [List.findIdx?_eq_none_iff]
    intro x hx
    simp only [beq_eq_false_iff_ne, ne_eq]
    intro e
    exact h (e ▸ hx)
  rw [this]
theorem side_not {r : Int} (h : r ∉ br) : side r = (0, 0) := look_not brackets r _ h
theorem mir_not {r : Int} (h : r ∉ br) (h' : r ∉ ot) : mir r = (0, false) := by
  unfold mir
  rw [side_not h, if_pos rfl, oth_not mirrored r h']
/-- What is so of all of a list's numbers. -/
theorem of_all {l : List Int} {p : Int → Bool} (h : l.all p = true) {r : Int} (hr : r ∈ l) : p r = true := List.all_eq_true.1 h r hr
/-- The document's own brackets. -/
def rside (r : Int) : Int × Int := if (part br r).1 < 0 then (0, 0) else (1 + (part br r).1 % 2, (part br r).2)
theorem rside_eq (r : Int) : rside r = side r := by
  by_cases h : r ∈ br
  · have := of_all (p := fun r => rside r == side r) (by decide +kernel) h
    exact eq_of_beq this
  · unfold rside
    rw [part_not _ _ h, side_not h]
    rfl
def rmir (r : Int) : Int × Bool := ((part (br ++ ot) r).2, decide (0 ≤ (part (br ++ ot) r).1))
theorem rmir_eq (r : Int) : rmir r = mir r := by
  by_cases h : r ∈ br ++ ot
  · have := of_all (p := fun r => rmir r == mir r) (by decide +kernel) h
    exact eq_of_beq this
  · unfold rmir
    rw [part_not _ _ h]
    simp only [List.mem_append, not_or] at h
    rw [mir_not h.1 h.2]
    rfl
/-- All brackets have the class 14. -/
theorem side_class {r : Int} (h : ¬ cls r = 14) : side r = (0, 0) := by
  by_cases hb : r ∈ br
  · have := of_all (p := fun r => cls r == 14) (by decide +kernel) hb
    exact absurd (eq_of_beq this) h
  · exact side_not hb
theorem side_ok (r : Int) : 0 ≤ (side r).1 ∧ (side r).1 ≤ 2 ∧ 0 ≤ (side r).2 ∧ (side r).2 ≤ 1114111 := by
  by_cases hb : r ∈ br
  · have := of_all (p := fun r => decide (0 ≤ (side r).1 ∧ (side r).1 ≤ 2 ∧ 0 ≤ (side r).2 ∧ (side r).2 ≤ 1114111)) (by decide +kernel) hb
    exact of_decide_eq_true this
  · rw [side_not hb]; decide
theorem mir_ok (r : Int) : 0 ≤ (mir r).1 ∧ (mir r).1 ≤ 1114111 := by
  by_cases hb : r ∈ br ++ ot
  · have := of_all (p := fun r => decide (0 ≤ (mir r).1 ∧ (mir r).1 ≤ 1114111)) (by decide +kernel) hb
    exact of_decide_eq_true this
  · simp only [List.mem_append, not_or] at hb
    rw [mir_not hb.1 hb.2]; decide
/-- The chapter's words on pairs, for a number that is mirrored. -/
theorem pairs_yes {r : Int} (h : (mir r).2 = true) : cls r = 14 ∧ cls (mir r).1 = 14 ∧ ¬ (mir r).1 = r ∧
    ((side r).1 = 0 → (side r).2 = 0) ∧
    (¬ (side r).1 = 0 → ((side r).1 = 1 ∨ (side r).1 = 2) ∧ (side (side r).2).1 = 3 - (side r).1 ∧ (side (side r).2).2 = r ∧ (side r).2 = (mir r).1 ∧ (side (canon r)).1 = (side r).1 ∧ canon (side (canon r)).2 = canon (side r).2) := by
  by_cases hb : r ∈ br ++ ot
  · have := of_all (p := fun r => decide (cls r = 14 ∧ cls (mir r).1 = 14 ∧ ¬ (mir r).1 = r ∧ ((side r).1 = 0 → (side r).2 = 0) ∧
      (¬ (side r).1 = 0 → ((side r).1 = 1 ∨ (side r).1 = 2) ∧ (side (side r).2).1 = 3 - (side r).1 ∧ (side (side r).2).2 = r ∧ (side r).2 = (mir r).1 ∧ (side (canon r)).1 = (side r).1 ∧ canon (side (canon r)).2 = canon (side r).2))) (by decide +kernel) hb
    exact of_decide_eq_true this
  · simp only [List.mem_append, not_or] at hb
    rw [mir_not hb.1 hb.2] at h
    cases h
theorem pairs_no {r : Int} (h : (mir r).2 = false) : (mir r).1 = 0 ∧ (side r).1 = 0 ∧ (side r).2 = 0 := by
  by_cases hb : r ∈ br ++ ot
  · have := of_all (p := fun r => (mir r).2) (by decide +kernel) hb
    simp only [h] at this
    cases this
  · simp only [List.mem_append, not_or] at hb
    rw [mir_not hb.1 hb.2, side_not hb.1]
    exact ⟨rfl, rfl, rfl⟩
theorem twice {r : Int} (h : (mir r).2 = true) : mir (mir r).1 = (r, true) := by
  by_cases hb : r ∈ br ++ ot
  · have := of_all (p := fun r => mir (mir r).1 == (r, true)) (by decide +kernel) hb
    exact eq_of_beq this
  · simp only [List.mem_append, not_or] at hb
    rw [mir_not hb.1 hb.2] at h
    cases h
theorem canon_twice (r : Int) : canon (canon r) = canon r ∧ cls (canon r) = cls r := by
  unfold canon
  by_cases h1 : r = 9001
  · subst h1; decide +kernel
  · by_cases h2 : r = 9002
    · subst h2; decide +kernel
    · rw [if_neg h1, if_neg h2, if_neg h1, if_neg h2]; exact ⟨rfl, rfl⟩
theorem works_at : side 40 = (1, 41) ∧ mir 60 = (62, true) ∧ cls 97 = 1 ∧ cls 1488 = 2 ∧ cls 1633 = 7 ∧ cls 8295 = 21 ∧ cls 55296 = 0 ∧ canon 9001 = 12296 := by decide +kernel
theorem canon_ok {r : Int} (h : -2147483648 ≤ r ∧ r ≤ 2147483647) : -2147483648 ≤ canon r ∧ canon r ≤ 2147483647 := by
  unfold canon
  by_cases h1 : r = 9001
  · rw [if_pos h1]; omega
  · by_cases h2 : r = 9002
    · rw [if_neg h1, if_pos h2]; omega
    · rw [if_neg h1, if_neg h2]; exact h
end Ucd
end Go.Proofs.YtchpdokjalbpnaaDoor
