/- All levels more; one level with a stretch of a greater one: plain mathematics. -/
import Derived.Test.YtmcbldllbnjipaaOb
namespace Go.Proofs.Ytmcbldllbnjipaa
set_option linter.unusedVariables false
namespace Od
/-- All levels d more. -/
def up (d : Int) (lv : List Int) : List Int := lv.map fun n => if 0 ≤ n then n + d else n
theorem up_len (d : Int) (lv : List Int) : (up d lv).length = lv.length := by simp [up]
theorem up_at (d : Int) (lv : List Int) {i : Nat} (hi : i < lv.length) : (up d lv).getD i 0 = if 0 ≤ lv.getD i 0 then lv.getD i 0 + d else lv.getD i 0 := by simp [up, List.getD, hi]
theorem up_sn {d : Int} (hd : 0 ≤ d) (lv : List Int) (z : Nat) : sn (up d lv) z = sn lv z := by
  unfold sn
  rw [up_len]
  rw [decide_eq_decide]
  constructor
  · rintro ⟨h1, h2⟩
    rw [up_at d lv h1] at h2
    split at h2 <;> omega
  · rintro ⟨h1, h2⟩
    rw [up_at d lv h1, if_pos h2]
    omega
theorem up_seen {d : Int} {lv : List Int} {z : Nat} (h : sn lv z = true) : (up d lv).getD z 0 = lv.getD z 0 + d := by
  rw [up_at d lv (sn_at h).1, if_pos (sn_at h).2]
theorem up_le {d : Int} (hd : 0 ≤ d) {lv : List Int} {x y : Nat} (hx : sn lv x = true) (hy : sn lv y = true) : le (up d lv) x y = le lv x y + d := by
  have hx2 : 0 ≤ (up d lv).getD x 0 := by rw [up_seen hx]; have := (sn_at hx).2; omega
  have hy2 : 0 ≤ (up d lv).getD y 0 := by rw [up_seen hy]; have := (sn_at hy).2; omega
  have hlx := (sn_at hx).1
  have hly := (sn_at hy).1
  have key : ∀ z, ((x ≤ z ∧ z ≤ y) ∨ (y ≤ z ∧ z ≤ x)) → (0 ≤ (up d lv).getD z 0 ↔ 0 ≤ lv.getD z 0) := fun z hz => by
    rw [up_at d lv (by omega)]
    split <;> omega
  obtain ⟨z, h1, h2, h3⟩ := le_is (sn_at hx).2 (sn_at hy).2
  obtain ⟨u, g1, g2, g3⟩ := le_is hx2 hy2
  have a1 := le_le hx2 hy2 ((key z h1).2 h2) h1
  have a2 := le_le (sn_at hx).2 (sn_at hy).2 ((key u g1).1 g2) g1
  rw [up_seen (sn_of h2 (by omega))] at a1
  rw [up_seen (sn_of ((key u g1).1 g2) (by omega))] at g3
  omega
theorem up_Fo {d : Int} (hd : 0 ≤ d) {lv : List Int} (h : ∀ i, i < lv.length → -1 ≤ lv.getD i 0 ∧ lv.getD i 0 ≤ 127 - d) : Fo (up d lv) := by
  intro i hi
  rw [up_len] at hi
  have := h i hi
  rw [up_at d lv hi]
  split <;> omega
theorem two_same {lv : List Int} (h : ∀ i, i < lv.length → -1 ≤ lv.getD i 0 ∧ lv.getD i 0 ≤ 125) : OD (up 2 lv) = OD lv := by
  have h0 : Fo lv := fun i hi => by have := h i hi; omega
  have h2 : Fo (up 2 lv) := up_Fo (by decide) fun i hi => by have := h i hi; omega
  have v0 := OD_vis h0
  have v2 := OD_vis h2
  refine Vis.eq v2 ⟨v0.pw.imp_of_mem ?_, fun z => by rw [v0.mem, up_sn (by decide)]⟩
  intro x y hx hy hxy
  unfold Lf at *
  rw [up_le (by decide) ((v0.mem x).1 hx) ((v0.mem y).1 hy)]
  have e : (le lv x y + 2) % 2 = le lv x y % 2 := by omega
  rw [e]
  exact hxy
theorem one_turned {lv : List Int} (h : ∀ i, i < lv.length → -1 ≤ lv.getD i 0 ∧ lv.getD i 0 ≤ 125) : OD (up 1 lv) = (OD lv).reverse := by
  have h0 : Fo lv := fun i hi => by have := h i hi; omega
  have h2 : Fo (up 1 lv) := up_Fo (by decide) fun i hi => by have := h i hi; omega
  have v0 := OD_vis h0
  have v2 := OD_vis h2
  refine Vis.eq v2 ⟨List.pairwise_reverse.2 (v0.pw.imp_of_mem ?_), fun z => by rw [List.mem_reverse, v0.mem, up_sn (by decide)]⟩
  intro x y hx hy hxy
  unfold Lf at *
  rw [up_le (by decide) ((v0.mem y).1 hy) ((v0.mem x).1 hx), le_comm y x]
  by_cases hp : le lv x y % 2 = 0
  · rw [if_pos hp] at hxy
    rw [if_neg (by omega)]
    exact hxy
  · rw [if_neg hp] at hxy
    rw [if_pos (by omega)]
    exact hxy
/-- One level, with a stretch of the next one. -/
def flat (L : Int) (a m b : Nat) : List Int := List.replicate a L ++ List.replicate m (L + 1) ++ List.replicate b L
theorem flat_len (L : Int) (a m b : Nat) : (flat L a m b).length = a + m + b := by simp [flat]; omega
theorem flat_at (L : Int) (a m b : Nat) {i : Nat} (hi : i < a + m + b) : (flat L a m b).getD i 0 = if a ≤ i ∧ i < a + m then L + 1 else L := by
  unfold flat
  simp only [List.getD_eq_getElem?_getD]
  by_cases h1 : i < a
  · rw [if_neg (by omega), List.append_assoc, List.getElem?_append_left (by simpa using h1), List.getElem?_replicate, if_pos h1]; rfl
  · by_cases h2 : i < a + m
    · rw [if_pos (by omega), List.append_assoc, List.getElem?_append_right (by simp; omega), List.getElem?_append_left (by simp; omega), List.getElem?_replicate, if_pos (by simp; omega)]; rfl
    · rw [if_neg (by omega), List.getElem?_append_right (by simp; omega), List.getElem?_replicate, if_pos (by simp; omega)]; rfl
/-- Which place stands at i. -/
def want (L : Int) (a m b i : Nat) : Nat :=
  let w := if L % 2 = 1 then a + m + b - 1 - i else i
  if a ≤ w ∧ w < a + m then 2 * a + m - 1 - w else w
theorem want_lt {L : Int} {a m b i : Nat} (hi : i < a + m + b) : want L a m b i < a + m + b := by
  unfold want
  simp only
  split <;> split <;> omega
theorem flat_le {L : Int} (hL : 0 ≤ L) {a m b x y : Nat} (hx : x < a + m + b) (hy : y < a + m + b) : le (flat L a m b) x y = if (a ≤ x ∧ x < a + m) ∧ (a ≤ y ∧ y < a + m) then L + 1 else L := by
  have sx : 0 ≤ (flat L a m b).getD x 0 := by rw [flat_at L a m b hx]; split <;> omega
  have sy : 0 ≤ (flat L a m b).getD y 0 := by rw [flat_at L a m b hy]; split <;> omega
  have lx := le_le sx sy sx (by omega)
  have ly := le_le sx sy sy (by omega)
  rw [flat_at L a m b hx] at lx
  rw [flat_at L a m b hy] at ly
  have h1 : L ≤ le (flat L a m b) x y := le_ge sx sy fun z hz _ => by rw [flat_at L a m b (by omega)]; split <;> omega
  by_cases h : (a ≤ x ∧ x < a + m) ∧ (a ≤ y ∧ y < a + m)
  · rw [if_pos h]
    rw [if_pos h.1] at lx
    have h2 : L + 1 ≤ le (flat L a m b) x y := le_ge sx sy fun z hz _ => by rw [flat_at L a m b (by omega), if_pos (by omega)]; exact Int.le_refl _
    omega
  · rw [if_neg h]
    by_cases h3 : a ≤ x ∧ x < a + m
    · rw [if_neg (fun q => h ⟨h3, q⟩)] at ly
      omega
    · rw [if_neg h3] at lx
      omega
theorem want_back (L : Int) (a m b z : Nat) (hz : z < a + m + b) : ∃ i, i < a + m + b ∧ want L a m b i = z := by
  by_cases hp : L % 2 = 1
  · by_cases h : a ≤ z ∧ z < a + m
    · refine ⟨a + m + b - 1 - (2 * a + m - 1 - z), by omega, ?_⟩
      unfold want
      simp only
      rw [if_pos hp, if_pos (by omega)]
      omega
    · refine ⟨a + m + b - 1 - z, by omega, ?_⟩
      unfold want
      simp only
      rw [if_pos hp, if_neg (by omega)]
      omega
  · by_cases h : a ≤ z ∧ z < a + m
    · refine ⟨2 * a + m - 1 - z, by omega, ?_⟩
      unfold want
      simp only
      rw [if_neg hp, if_pos (by omega)]
      omega
    · refine ⟨z, hz, ?_⟩
      unfold want
      simp only
      rw [if_neg hp, if_neg h]
theorem flat_OD {L : Int} (h0 : 0 ≤ L) (h1 : L ≤ 126) (a m b : Nat) : OD (flat L a m b) = (List.range (a + m + b)).map (want L a m b) := by
  have hF : Fo (flat L a m b) := fun i hi => by
    rw [flat_len] at hi
    rw [flat_at L a m b hi]
    split <;> omega
  refine Vis.eq (OD_vis hF) ⟨?_, fun z => ?_⟩
  · rw [List.pairwise_map]
    refine List.pairwise_lt_range.imp_of_mem ?_
    intro i j hi hj hij
    rw [List.mem_range] at hi hj
    have wi := want_lt (L := L) hi
    have wj := want_lt (L := L) hj
    unfold Lf
    rw [flat_le h0 wi wj]
    unfold want at *
    simp only at *
    by_cases hp : L % 2 = 1
    · rw [if_pos hp, if_pos hp] at *
      repeat' split
      all_goals omega
    · rw [if_neg hp, if_neg hp] at *
      repeat' split
      all_goals omega
  · rw [List.mem_map]
    constructor
    · rintro ⟨i, hi, rfl⟩
      rw [List.mem_range] at hi
      have := want_lt (L := L) hi
      refine sn_of ?_ (by rw [flat_len]; exact this)
      rw [flat_at L a m b this]
      split <;> omega
    · intro hz
      have := (sn_at hz).1
      rw [flat_len] at this
      obtain ⟨i, h1, h2⟩ := want_back L a m b z this
      exact ⟨i, List.mem_range.2 h1, h2⟩
end Od
end Go.Proofs.Ytmcbldllbnjipaa
