/- Plain mathematics of the chapter's table: ranges, brackets, mirrored ones. No Go in sight. -/
import Derived.RowKit
namespace Go.Proofs.YtchpdokjalbpnaaDoor
namespace Ucd
abbrev Rg : Type := Int × Int × Int
def rows : List Rg := [
    (0, 8, 10), (9, 9, 12), (10, 10, 11), (11, 11, 12), (12, 12, 13), (13, 13, 11), (14, 27, 10), (28, 30, 11),
    (31, 31, 12), (32, 32, 13), (33, 34, 14), (35, 37, 6), (38, 42, 14), (43, 43, 5), (44, 44, 8), (45, 45, 5),
    (46, 47, 8), (48, 57, 4), (58, 58, 8), (59, 64, 14), (91, 96, 14), (123, 126, 14), (127, 132, 10), (133, 133, 11),
    (134, 159, 10), (160, 160, 8), (161, 161, 14), (162, 165, 6), (166, 169, 14), (171, 172, 14), (173, 173, 10), (174, 175, 14),
    (176, 177, 6), (178, 179, 4), (180, 180, 14), (182, 184, 14), (185, 185, 4), (187, 191, 14), (215, 215, 14), (247, 247, 14),
    (768, 879, 9), (1155, 1161, 9), (1424, 1424, 2), (1425, 1469, 9), (1470, 1470, 2), (1471, 1471, 9), (1472, 1472, 2), (1473, 1474, 9),
    (1475, 1475, 2), (1476, 1477, 9), (1478, 1478, 2), (1479, 1479, 9), (1480, 1535, 2), (1536, 1541, 7), (1542, 1543, 14), (1544, 1544, 3),
    (1545, 1546, 6), (1547, 1547, 3), (1548, 1548, 8), (1549, 1549, 3), (1550, 1551, 14), (1552, 1562, 9), (1563, 1610, 3), (1611, 1631, 9),
    (1632, 1641, 7), (1642, 1642, 6), (1643, 1644, 7), (1645, 1647, 3), (1648, 1648, 9), (1649, 1749, 3), (1750, 1756, 9), (1757, 1757, 7),
    (1758, 1758, 14), (1759, 1764, 9), (1765, 1766, 3), (1767, 1768, 9), (1769, 1769, 14), (1770, 1773, 9), (1774, 1775, 3), (1776, 1785, 4),
    (1786, 1808, 3), (1809, 1809, 9), (1810, 1839, 3), (1840, 1866, 9), (1867, 1957, 3), (1958, 1968, 9), (1969, 1983, 3), (1984, 2026, 2),
    (2027, 2035, 9), (2036, 2037, 2), (2038, 2041, 14), (2042, 2143, 2), (8192, 8202, 13), (8203, 8205, 10), (8207, 8207, 2), (8208, 8231, 14),
    (8232, 8232, 13), (8233, 8233, 11), (8234, 8234, 15), (8235, 8235, 17), (8236, 8236, 19), (8237, 8237, 16), (8238, 8238, 18), (8239, 8239, 8),
    (8240, 8244, 6), (8245, 8259, 14), (8260, 8260, 8), (8261, 8286, 14), (8287, 8287, 13), (8288, 8293, 10), (8294, 8294, 20), (8295, 8295, 21),
    (8296, 8296, 22), (8297, 8297, 23), (8298, 8303, 10), (8304, 8304, 4), (8308, 8313, 4), (8314, 8315, 5), (8316, 8318, 14), (8320, 8329, 4),
    (8330, 8331, 5), (8332, 8334, 14), (8352, 8399, 6), (8400, 8432, 9), (8592, 8721, 14), (8722, 8722, 5), (8723, 8723, 6), (8724, 9013, 14),
    (9472, 9899, 14), (10214, 10223, 14), (12288, 12288, 13), (12289, 12292, 14), (12296, 12320, 14), (64285, 64285, 2), (64286, 64286, 9), (64287, 64296, 2),
    (64297, 64297, 5), (64298, 64335, 2), (64336, 65023, 3), (65024, 65039, 9), (65136, 65278, 3), (65279, 65279, 10), (67584, 69631, 2), (120782, 120831, 4),
    (124928, 126463, 2), (126464, 126719, 3), (917760, 917999, 9)]
def valid (r : Int) : Bool := (decide (0 ≤ r) && decide (r < 55296)) || (decide (57343 < r) && decide (r ≤ 1114111))
def find : List Rg → Int → Int
  | [], _ => 1
  | p :: t, r => if p.1 ≤ r ∧ r ≤ p.2.1 then p.2.2 else find t r
/-- The class by the chapter's words. -/
def cls (r : Int) : Int := if valid r = true then find rows r else 0
/-- The ranges rise behind 'last', and their classes are from 1 to 23. -/
def rises : Int → List Rg → Bool
  | _, [] => true
  | last, p :: t => decide (last < p.1) && decide (p.1 ≤ p.2.1) && decide (p.2.1 ≤ 1114111) && decide (1 ≤ p.2.2) && decide (p.2.2 ≤ 23) && rises p.2.1 t
def lo (l : List Rg) (i : Nat) : Int := (l.getD i (0, 0, 0)).1
def hi (l : List Rg) (i : Nat) : Int := (l.getD i (0, 0, 0)).2.1
def cl (l : List Rg) (i : Nat) : Int := (l.getD i (0, 0, 0)).2.2
theorem rows_rise : rises (-1) rows = true := by decide +kernel
theorem rows_len : rows.length = 147 := by decide +kernel
theorem lo_succ (p : Rg) (t : List Rg) (i : Nat) : lo (p :: t) (i + 1) = lo t i := by simp [lo]
theorem hi_succ (p : Rg) (t : List Rg) (i : Nat) : hi (p :: t) (i + 1) = hi t i := by simp [hi]
theorem cl_succ (p : Rg) (t : List Rg) (i : Nat) : cl (p :: t) (i + 1) = cl t i := by simp [cl]
theorem find_early : ∀ (l : List Rg) (last r : Int), rises last l = true → r ≤ last → find l r = 1
  | [], _, _, _, _ => rfl
  | p :: t, last, r, h, hr => by
    simp only [rises, Bool.and_eq_true, decide_eq_true_eq] at h
    obtain ⟨⟨⟨⟨⟨h1, h2⟩, h3⟩, h4⟩, h5⟩, h6⟩ := h
    simp only [find]
    rw [if_neg (by omega)]
    exact find_early t p.2.1 r h6 (by omega)
/-- Where a search by the ranges' ends stops, there the class is told. -/
theorem find_at : ∀ (l : List Rg) (last r : Int) (k : Nat), rises last l = true → k ≤ l.length → (∀ t, t < k → hi l t < r) → (∀ t, k ≤ t → t < l.length → r ≤ hi l t) →
    find l r = if k < l.length ∧ lo l k ≤ r then cl l k else 1
  | [], _, r, k, _, hk, _, _ => by
    rw [if_neg (by simp)]; rfl
  | p :: t, last, r, 0, h, _, _, h2 => by
    simp only [rises, Bool.and_eq_true, decide_eq_true_eq] at h
    obtain ⟨⟨⟨⟨⟨g1, g2⟩, g3⟩, g4⟩, g5⟩, g6⟩ := h
    have e0 := h2 0 (Nat.le_refl _) (by simp)
    have e1 : hi (p :: t) 0 = p.2.1 := rfl
    have e2 : lo (p :: t) 0 = p.1 := rfl
    have e3 : cl (p :: t) 0 = p.2.2 := rfl
    rw [e2, e3]
    rw [e1] at e0
    simp only [find]
    by_cases hp : p.1 ≤ r
    · rw [if_pos ⟨hp, e0⟩, if_pos ⟨by simp, hp⟩]
    · rw [if_neg (by omega), if_neg (by omega)]
      exact find_early t p.2.1 r g6 (by omega)
  | p :: t, last, r, k + 1, h, hk, h1, h2 => by
    simp only [rises, Bool.and_eq_true, decide_eq_true_eq] at h
    obtain ⟨⟨⟨⟨⟨g1, g2⟩, g3⟩, g4⟩, g5⟩, g6⟩ := h
    have e0 := h1 0 (by omega)
    have e1 : hi (p :: t) 0 = p.2.1 := rfl
    rw [e1] at e0
    simp only [find]
    rw [if_neg (by omega), find_at t p.2.1 r k g6 (by simpa using hk) (fun x hx => by rw [← hi_succ p]; exact h1 (x + 1) (by omega)) (fun x hx hl => by rw [← hi_succ p]; exact h2 (x + 1) (by omega) (by simpa using hl))]
    rw [lo_succ, cl_succ]
    simp
theorem cls_at {r : Int} (hv : valid r = true) (k : Nat) (hk : k ≤ 147) (h1 : ∀ t, t < k → hi rows t < r) (h2 : ∀ t, k ≤ t → t < 147 → r ≤ hi rows t) :
    cls r = if k < 147 ∧ lo rows k ≤ r then cl rows k else 1 := by
  unfold cls
  rw [if_pos hv, find_at rows (-1) r k rows_rise (by rw [rows_len]; exact hk) h1 (by rw [rows_len]; exact h2), rows_len]
theorem cls_not {r : Int} (hv : valid r = false) : cls r = 0 := by
  unfold cls; rw [if_neg (by rw [hv]; simp)]
/-- The ends rise. -/
theorem hi_mono : ∀ (l : List Rg) (last : Int) (a b : Nat), rises last l = true → a ≤ b → b < l.length → hi l a ≤ hi l b ∧ last < hi l a
  | [], _, _, b, _, _, hb => by simp at hb
  | p :: t, last, a, b, h, hab, hb => by
    simp only [rises, Bool.and_eq_true, decide_eq_true_eq] at h
    obtain ⟨⟨⟨⟨⟨g1, g2⟩, g3⟩, g4⟩, g5⟩, g6⟩ := h
    have e1 : hi (p :: t) 0 = p.2.1 := rfl
    match a, b with
    | 0, 0 => rw [e1]; omega
    | 0, b + 1 =>
      rw [e1, hi_succ]
      have := hi_mono t p.2.1 b b g6 (Nat.le_refl _) (by simpa using hb)
      omega
    | a + 1, 0 => omega
    | a + 1, b + 1 =>
      rw [hi_succ, hi_succ]
      have := hi_mono t p.2.1 a b g6 (by omega) (by simpa using hb)
      omega
theorem hi_rows {a b : Nat} (h : a ≤ b) (hb : b < 147) : hi rows a ≤ hi rows b := (hi_mono rows (-1) a b rows_rise h (by rw [rows_len]; exact hb)).1
/-- What a row's numbers may be. -/
theorem row_ok : ∀ (l : List Rg) (last : Int) (i : Nat), rises last l = true → i < l.length → last < lo l i ∧ lo l i ≤ hi l i ∧ hi l i ≤ 1114111 ∧ 1 ≤ cl l i ∧ cl l i ≤ 23
  | [], _, i, _, hi => by simp at hi
  | p :: t, last, 0, h, _ => by
    simp only [rises, Bool.and_eq_true, decide_eq_true_eq] at h
    obtain ⟨⟨⟨⟨⟨g1, g2⟩, g3⟩, g4⟩, g5⟩, g6⟩ := h
    exact ⟨g1, g2, g3, g4, g5⟩
  | p :: t, last, i + 1, h, hi' => by
    simp only [rises, Bool.and_eq_true, decide_eq_true_eq] at h
    obtain ⟨⟨⟨⟨⟨g1, g2⟩, g3⟩, g4⟩, g5⟩, g6⟩ := h
    rw [lo_succ, hi_succ, cl_succ]
    have := row_ok t p.2.1 i g6 (by simpa using hi')
    omega
theorem rows_ok {i : Nat} (h : i < 147) : 0 ≤ lo rows i ∧ lo rows i ≤ hi rows i ∧ hi rows i ≤ 1114111 ∧ 1 ≤ cl rows i ∧ cl rows i ≤ 23 := by
  have := row_ok rows (-1) i rows_rise (by rw [rows_len]; exact h)
  omega
/-- Three cells a row, one behind the other. -/
def flat {V : Type} (f : Rg → List V) (l : List Rg) : List V := l.flatMap f
theorem flat_at {V : Type} (f : Rg → List V) (hf : ∀ p, (f p).length = 3) : ∀ (l : List Rg) (i j : Nat), i < l.length → j < 3 → (flat f l)[i * 3 + j]? = (f (l.getD i (0, 0, 0)))[j]?
  | [], i, _, h, _ => by simp at h
  | p :: t, 0, j, _, hj => by
    simp only [flat, List.flatMap_cons]
    rw [List.getElem?_append_left (by rw [hf]; omega)]
    simp
  | p :: t, i + 1, j, h, hj => by
    simp only [flat, List.flatMap_cons]
    rw [List.getElem?_append_right (by rw [hf]; omega), hf, show (i + 1) * 3 + j - 3 = i * 3 + j from by omega]
    have := flat_at f hf t i j (by simpa using h) hj
    simp only [flat] at this
    rw [this]
    simp
theorem flat_len {V : Type} (f : Rg → List V) (hf : ∀ p, (f p).length = 3) : ∀ (l : List Rg), (flat f l).length = 3 * l.length
  | [] => rfl
  | p :: t => by
    have := flat_len f hf t
    simp only [flat] at this
    simp only [flat, List.flatMap_cons, List.length_append, hf, this, List.length_cons]
    omega
def brackets : List (Int × Int) := [
    (40, 41), (91, 93), (123, 125), (8261, 8262), (8317, 8318), (8333, 8334), (9001, 9002), (10214, 10215), (10216, 10217), (10218, 10219),
    (10220, 10221), (10222, 10223), (12296, 12297), (12298, 12299), (12300, 12301), (12302, 12303), (12304, 12305), (12308, 12309), (12310, 12311), (12312, 12313),
    (12314, 12315)]
def mirrored : List (Int × Int) := [
    (60, 62), (171, 187), (8249, 8250), (8712, 8715), (8804, 8805), (8806, 8807), (8810, 8811), (8822, 8823), (8834, 8835), (8838, 8839)]
end Ucd
end Go.Proofs.YtchpdokjalbpnaaDoor
