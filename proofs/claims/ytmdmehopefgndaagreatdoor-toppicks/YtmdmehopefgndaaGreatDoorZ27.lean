import Derived.Test.YtmdmehopefgndaaGreatDoorZ26
import Derived.Test.YtmdmehopefgndaaGreatDoorZ01
import Derived.Test.YtmdmehopefgndaaGreatDoorZ07
/- The visual order: there is just one; where a place stands in it: plain mathematics. -/
namespace Go.Proofs.YtmdmehopefgndaaGreatDoor
set_option linter.unusedVariables false
namespace Od
/-- Two lists of the same places, each one behind the other by one relation. -/
theorem sorted_eq {S : Nat → Nat → Prop} (ha : ∀ x y, S x y → ¬ S y x) : ∀ (P Q : List Nat), P.Pairwise S → Q.Pairwise S → (∀ z, z ∈ P ↔ z ∈ Q) → P = Q
  | [], Q, _, _, h => by
    cases Q with
    | nil => rfl
    | cons y Q => exact absurd ((h y).2 List.mem_cons_self) (by simp)
  | x :: P, [], _, _, h => absurd ((h x).1 List.mem_cons_self) (by simp)
  | x :: P, y :: Q, hP, hQ, h => by
    obtain ⟨p1, p2⟩ := List.pairwise_cons.1 hP
    obtain ⟨q1, q2⟩ := List.pairwise_cons.1 hQ
    have hxy : x = y := by
      by_cases e : x = y
      · exact e
      · have hx : x ∈ Q := by
          rcases List.mem_cons.1 ((h x).1 List.mem_cons_self) with h0 | h0
          · exact absurd h0 e
          · exact h0
        have hy : y ∈ P := by
          rcases List.mem_cons.1 ((h y).2 List.mem_cons_self) with h0 | h0
          · exact absurd h0.symm e
          · exact h0
        exact absurd (q1 x hx) (ha _ _ (p1 y hy))
    subst hxy
    congr 1
    refine sorted_eq ha P Q p2 q2 fun z => ⟨fun hz => ?_, fun hz => ?_⟩
    · rcases List.mem_cons.1 ((h z).1 (List.mem_cons_of_mem _ hz)) with rfl | h0
      · exact absurd (p1 z hz) (ha _ _ (p1 z hz))
      · exact h0
    · rcases List.mem_cons.1 ((h z).2 (List.mem_cons_of_mem _ hz)) with rfl | h0
      · exact absurd (q1 z hz) (ha _ _ (q1 z hz))
      · exact h0
/-- The visual order, and what it is. -/
structure Vis (lv : List Int) (P : List Nat) : Prop where
  pw : P.Pairwise (Lf lv)
  mem : ∀ z, z ∈ P ↔ sn lv z = true
theorem Vis.eq {lv : List Int} {P Q : List Nat} (h : Vis lv P) (h' : Vis lv Q) : P = Q :=
  sorted_eq (fun _ _ => Lf_asymm) P Q h.pw h'.pw fun z => (h.mem z).trans (h'.mem z).symm
def OD (lv : List Int) : List Nat := down lv 127 127
/-- Levels as they may be. -/
def Fo (lv : List Int) : Prop := ∀ i, i < lv.length → -1 ≤ lv.getD i 0 ∧ lv.getD i 0 ≤ 127
theorem le_low {lv : List Int} {x y : Nat} (hx : sn lv x = true) (hy : sn lv y = true) : 0 ≤ le lv x y := le_ge (sn_at hx).2 (sn_at hy).2 fun z _ h => h
/-- Any turning down to an odd level below which no odd one is seen, or to 1. -/
theorem vis_of {lv : List Int} {k : Int} {P : List Nat} (hk : k % 2 = 0) (h : By lv k P) (hodd : ∀ z, sn lv z = true → lv.getD z 0 ≤ k → lv.getD z 0 % 2 = 0) : Vis lv P := by
  refine ⟨h.pw.imp_of_mem ?_, h.mem⟩
  intro x y hx hy hb
  have sx := (h.mem x).1 hx
  have sy := (h.mem y).1 hy
  refine (Bf_Lf hk (le_low sx sy) fun hle => ?_).1 hb
  obtain ⟨z, h1, h2, h3⟩ := le_is (x := x) (y := y) (sn_at sx).2 (sn_at sy).2
  rw [h3] at hle ⊢
  have := (sn_at sx).1
  have := (sn_at sy).1
  exact hodd z (sn_of h2 (by omega)) hle
theorem OD_vis {lv : List Int} (h : Fo lv) : Vis lv (OD lv) := by
  have hb := down_by (lv := lv) (k := 127) (fun i hi => (h i hi).2) 127
  refine vis_of (k := 0) rfl hb fun z hz hle => ?_
  have := (sn_at hz).2
  rw [show lv.getD z 0 = 0 by omega]
  rfl
theorem OD_perm (lv : List Int) : (OD lv).Perm (K lv) := down_perm 127 127
theorem OD_len (lv : List Int) : (OD lv).length = (K lv).length := (OD_perm lv).length_eq
theorem OD_lt {lv : List Int} (h : Fo lv) {x : Nat} (hx : x ∈ OD lv) : x < lv.length := (sn_at (((OD_vis h).mem x).1 hx)).1
theorem OD_nodup {lv : List Int} (h : Fo lv) : (OD lv).Nodup := by
  refine (OD_vis h).pw.imp ?_
  rintro x y hxy rfl
  exact Lf_asymm hxy hxy
instance (lv : List Int) (x y : Nat) : Decidable (Lf lv x y) := by unfold Lf; exact inferInstance
/-- How many stand further left. -/
def cnt (lv : List Int) (i : Nat) : Nat → Nat
  | 0 => 0
  | k + 1 => if sn lv k = true ∧ Lf lv k i then cnt lv i k + 1 else cnt lv i k
theorem cnt_filter (lv : List Int) (i : Nat) : ∀ k, cnt lv i k = (((List.range k).filter (sn lv)).filter fun j => decide (Lf lv j i)).length
  | 0 => rfl
  | k + 1 => by
    rw [cnt, List.range_succ, List.filter_append, List.filter_append, List.length_append, ← cnt_filter lv i k]
    by_cases h1 : sn lv k = true
    · by_cases h2 : Lf lv k i
      · rw [if_pos ⟨h1, h2⟩]; simp [h1, h2]
      · rw [if_neg (fun q => h2 q.2)]; simp [h1, h2]
    · rw [if_neg (fun q => h1 q.1)]; simp [h1]
theorem rank {S : Nat → Nat → Prop} [∀ x y, Decidable (S x y)] (ha : ∀ x y, S x y → ¬ S y x) {l1 l2 : List Nat} {x : Nat} (h : (l1 ++ x :: l2).Pairwise S) : ((l1 ++ x :: l2).filter fun y => decide (S y x)).length = l1.length := by
  obtain ⟨_, h2, h3⟩ := List.pairwise_append.1 h
  obtain ⟨h4, _⟩ := List.pairwise_cons.1 h2
  rw [List.filter_append, List.length_append, List.filter_cons]
  have e1 : l1.filter (fun y => decide (S y x)) = l1 := List.filter_eq_self.2 fun y hy => decide_eq_true (h3 y hy x (by simp))
  have e2 : l2.filter (fun y => decide (S y x)) = [] := List.filter_eq_nil_iff.2 fun y hy => by simpa using ha _ _ (h4 y hy)
  have e3 : ¬ S x x := fun q => ha _ _ q q
  rw [e1, e2, if_neg (by simpa using e3)]
  simp
theorem cnt_at {lv : List Int} (h : Fo lv) {i : Nat} (hi : i < (OD lv).length) : cnt lv ((OD lv).getD i 0) lv.length = i := by
  have hv := OD_vis h
  rw [cnt_filter]
  have e : (OD lv).getD i 0 = (OD lv)[i] := by simp [List.getD, hi]
  rw [e]
  obtain ⟨l1, l2, h1, h2⟩ : ∃ l1 l2, OD lv = l1 ++ (OD lv)[i] :: l2 ∧ l1.length = i :=
    ⟨(OD lv).take i, (OD lv).drop (i + 1), by rw [← List.drop_eq_getElem_cons hi, List.take_append_drop], by rw [List.length_take]; omega⟩
  generalize (OD lv)[i] = x at *
  have hp := ((OD_perm lv).filter fun y => decide (Lf lv y x)).length_eq
  have hr := rank (S := Lf lv) (fun _ _ => Lf_asymm) (by rw [← h1]; exact hv.pw)
  rw [← h1] at hr
  have : ((K lv).filter fun y => decide (Lf lv y x)).length = l1.length := by rw [← hp, hr]
  unfold K at this
  rw [this, h2]
/-- The order, as far as places below k are put. -/
def OUT (lv : List Int) (k : Nat) : List Int := (OD lv).map fun x => if x < k then (x : Int) else 0
theorem OUT_zero (lv : List Int) : OUT lv 0 = List.replicate (K lv).length 0 := by
  rw [← OD_len]
  refine List.ext_getElem (by simp [OUT]) fun i h1 h2 => ?_
  simp [OUT]
theorem OUT_skip {lv : List Int} (h : Fo lv) {k : Nat} (hk : sn lv k = false) : OUT lv (k + 1) = OUT lv k := by
  unfold OUT
  refine List.map_congr_left fun x hx => ?_
  have hx2 := ((OD_vis h).mem x).1 hx
  have : ¬ x = k := by rintro rfl; rw [hk] at hx2; cases hx2
  by_cases h1 : x < k
  · rw [if_pos h1, if_pos (by omega)]
  · rw [if_neg h1, if_neg (by omega)]
theorem cnt_lt {lv : List Int} (h : Fo lv) {k : Nat} (hk : sn lv k = true) : cnt lv k lv.length < (OD lv).length ∧ (OD lv).getD (cnt lv k lv.length) 0 = k := by
  have hm := ((OD_vis h).mem k).2 hk
  obtain ⟨i, hi, e⟩ := List.getElem_of_mem hm
  have e2 : (OD lv).getD i 0 = k := by simp [List.getD, hi, e]
  have := cnt_at h hi
  rw [e2] at this
  rw [this]
  exact ⟨hi, e2⟩
theorem OUT_put {lv : List Int} (h : Fo lv) {k : Nat} (hk : sn lv k = true) : (OUT lv k).set (cnt lv k lv.length) (k : Int) = OUT lv (k + 1) := by
  obtain ⟨h1, h2⟩ := cnt_lt h hk
  have hnd := OD_nodup h
  generalize cnt lv k lv.length = c at *
  unfold OUT
  refine List.ext_getElem (by simp) fun i i1 i2 => ?_
  simp only [List.length_set, List.length_map] at i1
  rw [List.getElem_set]
  simp only [List.getElem_map]
  have hc : (OD lv)[c] = k := by rw [← h2]; simp [List.getD, h1]
  by_cases e : c = i
  · subst e
    rw [if_pos rfl, hc, if_pos (by omega)]
  · rw [if_neg e]
    have hne : ¬ (OD lv)[i] = k := fun q => e ((List.getElem_inj hnd).1 (hc.trans q.symm))
    by_cases hlt : (OD lv)[i] < k
    · rw [if_pos hlt, if_pos (by omega)]
    · rw [if_neg hlt, if_neg (by omega)]
theorem OUT_end {lv : List Int} (h : Fo lv) : OUT lv lv.length = (OD lv).map fun (x : Nat) => (x : Int) := by
  unfold OUT
  refine List.map_congr_left fun x hx => ?_
  rw [if_pos (OD_lt h hx)]
end Od
end Go.Proofs.YtmdmehopefgndaaGreatDoor

/- All levels more; one level with a stretch of a greater one: plain mathematics. -/
namespace Go.Proofs.YtmdmehopefgndaaGreatDoor
set_option linter.unusedVariables false
namespace Od
/-- All levels d more. -/
def up (d : Int) (lv : List Int) : List Int := lv.map fun n => if 0 ≤ n then n + d else n
theorem up_len (d : Int) (lv : List Int) : (up d lv).length = lv.length := by simp [up]
theorem up_at (d : Int) (lv : List Int) {i : Nat} (hi : i < lv.length) : (up d lv).getD i 0 = if 0 ≤ lv.getD i 0 then lv.getD i 0 + d else lv.getD i 0 := by simp [up, List.getD, hi]
theorem up_sn {d : Int} (hd : 0 ≤ d) (lv : List Int) (z : Nat) : sn (up d lv) z = sn lv z := by
  unfold sn
  rw [up_len]
  rw [decide_eq_decide]
  constructor
  · rintro ⟨h1, h2⟩
    rw [up_at d lv h1] at h2
    split at h2 <;> omega
  · rintro ⟨h1, h2⟩
    rw [up_at d lv h1, if_pos h2]
    omega
theorem up_seen {d : Int} {lv : List Int} {z : Nat} (h : sn lv z = true) : (up d lv).getD z 0 = lv.getD z 0 + d := by
  rw [up_at d lv (sn_at h).1, if_pos (sn_at h).2]
theorem up_le {d : Int} (hd : 0 ≤ d) {lv : List Int} {x y : Nat} (hx : sn lv x = true) (hy : sn lv y = true) : le (up d lv) x y = le lv x y + d := by
  have hx2 : 0 ≤ (up d lv).getD x 0 := by rw [up_seen hx]; have := (sn_at hx).2; omega
  have hy2 : 0 ≤ (up d lv).getD y 0 := by rw [up_seen hy]; have := (sn_at hy).2; omega
  have hlx := (sn_at hx).1
  have hly := (sn_at hy).1
  have key : ∀ z, ((x ≤ z ∧ z ≤ y) ∨ (y ≤ z ∧ z ≤ x)) → (0 ≤ (up d lv).getD z 0 ↔ 0 ≤ lv.getD z 0) := fun z hz => by
    rw [up_at d lv (by omega)]
    split <;> omega
  obtain ⟨z, h1, h2, h3⟩ := le_is (sn_at hx).2 (sn_at hy).2
  obtain ⟨u, g1, g2, g3⟩ := le_is hx2 hy2
  have a1 := le_le hx2 hy2 ((key z h1).2 h2) h1
  have a2 := le_le (sn_at hx).2 (sn_at hy).2 ((key u g1).1 g2) g1
  rw [up_seen (sn_of h2 (by omega))] at a1
  rw [up_seen (sn_of ((key u g1).1 g2) (by omega))] at g3
  omega
theorem up_Fo {d : Int} (hd : 0 ≤ d) {lv : List Int} (h : ∀ i, i < lv.length → -1 ≤ lv.getD i 0 ∧ lv.getD i 0 ≤ 127 - d) : Fo (up d lv) := by
  intro i hi
  rw [up_len] at hi
  have := h i hi
  rw [up_at d lv hi]
  split <;> omega
theorem two_same {lv : List Int} (h : ∀ i, i < lv.length → -1 ≤ lv.getD i 0 ∧ lv.getD i 0 ≤ 125) : OD (up 2 lv) = OD lv := by
  have h0 : Fo lv := fun i hi => by have := h i hi; omega
  have h2 : Fo (up 2 lv) := up_Fo (by decide) fun i hi => by have := h i hi; omega
  have v0 := OD_vis h0
  have v2 := OD_vis h2
  refine Vis.eq v2 ⟨v0.pw.imp_of_mem ?_, fun z => by rw [v0.mem, up_sn (by decide)]⟩
  intro x y hx hy hxy
  unfold Lf at *
  rw [up_le (by decide) ((v0.mem x).1 hx) ((v0.mem y).1 hy)]
  have e : (le lv x y + 2) % 2 = le lv x y % 2 := by omega
  rw [e]
  exact hxy
theorem one_turned {lv : List Int} (h : ∀ i, i < lv.length → -1 ≤ lv.getD i 0 ∧ lv.getD i 0 ≤ 125) : OD (up 1 lv) = (OD lv).reverse := by
  have h0 : Fo lv := fun i hi => by have := h i hi; omega
  have h2 : Fo (up 1 lv) := up_Fo (by decide) fun i hi => by have := h i hi; omega
  have v0 := OD_vis h0
  have v2 := OD_vis h2
  refine Vis.eq v2 ⟨List.pairwise_reverse.2 (v0.pw.imp_of_mem ?_), fun z => by rw [List.mem_reverse, v0.mem, up_sn (by decide)]⟩
  intro x y hx hy hxy
  unfold Lf at *
  rw [up_le (by decide) ((v0.mem y).1 hy) ((v0.mem x).1 hx), le_comm y x]
  by_cases hp : le lv x y % 2 = 0
  · rw [if_pos hp] at hxy
    rw [if_neg (by omega)]
    exact hxy
  · rw [if_neg hp] at hxy
    rw [if_pos (by omega)]
    exact hxy
/-- One level, with a stretch of the next one. -/
def flat (L : Int) (a m b : Nat) : List Int := List.replicate a L ++ List.replicate m (L + 1) ++ List.replicate b L
theorem flat_len (L : Int) (a m b : Nat) : (flat L a m b).length = a + m + b := by simp [flat]; omega
theorem flat_at (L : Int) (a m b : Nat) {i : Nat} (hi : i < a + m + b) : (flat L a m b).getD i 0 = if a ≤ i ∧ i < a + m then L + 1 else L := by
  unfold flat
  simp only [List.getD_eq_getElem?_getD]
  by_cases h1 : i < a
  · rw [if_neg (by omega), List.append_assoc, List.getElem?_append_left (by simpa using h1), List.getElem?_replicate, if_pos h1]; rfl
  · by_cases h2 : i < a + m
    · rw [if_pos (by omega), List.append_assoc, List.getElem?_append_right (by simp; omega), List.getElem?_append_left (by simp; omega), List.getElem?_replicate, if_pos (by simp; omega)]; rfl
    · rw [if_neg (by omega), List.getElem?_append_right (by simp; omega), List.getElem?_replicate, if_pos (by simp; omega)]; rfl
/-- Which place stands at i. -/
def want (L : Int) (a m b i : Nat) : Nat :=
  let w := if L % 2 = 1 then a + m + b - 1 - i else i
  if a ≤ w ∧ w < a + m then 2 * a + m - 1 - w else w
theorem want_lt {L : Int} {a m b i : Nat} (hi : i < a + m + b) : want L a m b i < a + m + b := by
  unfold want
  simp only
  split <;> split <;> omega
theorem flat_le {L : Int} (hL : 0 ≤ L) {a m b x y : Nat} (hx : x < a + m + b) (hy : y < a + m + b) : le (flat L a m b) x y = if (a ≤ x ∧ x < a + m) ∧ (a ≤ y ∧ y < a + m) then L + 1 else L := by
  have sx : 0 ≤ (flat L a m b).getD x 0 := by rw [flat_at L a m b hx]; split <;> omega
  have sy : 0 ≤ (flat L a m b).getD y 0 := by rw [flat_at L a m b hy]; split <;> omega
  have lx := le_le sx sy sx (by omega)
  have ly := le_le sx sy sy (by omega)
  rw [flat_at L a m b hx] at lx
  rw [flat_at L a m b hy] at ly
  have h1 : L ≤ le (flat L a m b) x y := le_ge sx sy fun z hz _ => by rw [flat_at L a m b (by omega)]; split <;> omega
  by_cases h : (a ≤ x ∧ x < a + m) ∧ (a ≤ y ∧ y < a + m)
  · rw [if_pos h]
    rw [if_pos h.1] at lx
    have h2 : L + 1 ≤ le (flat L a m b) x y := le_ge sx sy fun z hz _ => by rw [flat_at L a m b (by omega), if_pos (by omega)]; exact Int.le_refl _
    omega
  · rw [if_neg h]
    by_cases h3 : a ≤ x ∧ x < a + m
    · rw [if_neg (fun q => h ⟨h3, q⟩)] at ly
      omega
    · rw [if_neg h3] at lx
      omega
theorem want_back (L : Int) (a m b z : Nat) (hz : z < a + m + b) : ∃ i, i < a + m + b ∧ want L a m b i = z := by
  by_cases hp : L % 2 = 1
  · by_cases h : a ≤ z ∧ z < a + m
    · refine ⟨a + m + b - 1 - (2 * a + m - 1 - z), by omega, ?_⟩
      unfold want
      simp only
      rw [if_pos hp, if_pos (by omega)]
      omega
    · refine ⟨a + m + b - 1 - z, by omega, ?_⟩
      unfold want
      simp only
      rw [if_pos hp, if_neg (by omega)]
      omega
  · by_cases h : a ≤ z ∧ z < a + m
    · refine ⟨2 * a + m - 1 - z, by omega, ?_⟩
      unfold want
      simp only
      rw [if_neg hp, if_pos (by omega)]
      omega
    · refine ⟨z, hz, ?_⟩
      unfold want
      simp only
      rw [if_neg hp, if_neg h]
theorem flat_OD {L : Int} (h0 : 0 ≤ L) (h1 : L ≤ 126) (a m b : Nat) : OD (flat L a m b) = (List.range (a + m + b)).map (want L a m b) := by
  have hF : Fo (flat L a m b) := fun i hi => by
    rw [flat_len] at hi
    rw [flat_at L a m b hi]
    split <;> omega
  refine Vis.eq (OD_vis hF) ⟨?_, fun z => ?_⟩
  · rw [List.pairwise_map]
    refine List.pairwise_lt_range.imp_of_mem ?_
    intro i j hi hj hij
    rw [List.mem_range] at hi hj
    have wi := want_lt (L := L) hi
    have wj := want_lt (L := L) hj
    unfold Lf
    rw [flat_le h0 wi wj]
    unfold want at *
    simp only at *
    by_cases hp : L % 2 = 1
    · rw [if_pos hp, if_pos hp] at *
      repeat' split
      all_goals omega
    · rw [if_neg hp, if_neg hp] at *
      repeat' split
      all_goals omega
  · rw [List.mem_map]
    constructor
    · rintro ⟨i, hi, rfl⟩
      rw [List.mem_range] at hi
      have := want_lt (L := L) hi
      refine sn_of ?_ (by rw [flat_len]; exact this)
      rw [flat_at L a m b this]
      split <;> omega
    · intro hz
      have := (sn_at hz).1
      rw [flat_len] at this
      obtain ⟨i, h1, h2⟩ := want_back L a m b z this
      exact ⟨i, List.mem_range.2 h1, h2⟩
end Od
end Go.Proofs.YtmdmehopefgndaaGreatDoor

/- The levels of a line: plain mathematics. -/
namespace Go.Proofs.YtmdmehopefgndaaGreatDoor
set_option linter.unusedVariables false
namespace Od
/-- S and B. -/
def sep (x : Int) : Bool := x == 12 || x == 11
/-- WS, LRI, RLI, FSI and PDI. -/
def loose (x : Int) : Bool := x == 13 || (decide (20 ≤ x) && decide (x ≤ 23))
theorem sep_iff {x : Int} : sep x = true ↔ x = 12 ∨ x = 11 := by simp [sep]
theorem loose_iff {x : Int} : loose x = true ↔ x = 13 ∨ (20 ≤ x ∧ x ≤ 23) := by simp [loose]
theorem loose_sep {x : Int} (h : loose x = true) : sep x = false := by
  rw [loose_iff] at h
  rw [← Bool.not_eq_true, sep_iff]
  omega
/-- Is what stands at i, d places ahead of the line's end, of a stretch ahead of S, of B or of the end? -/
def rs (c lv : List Int) : Nat → Nat → Bool
  | _, 0 => true
  | i, d + 1 => if sep (c.getD i 0) = true then true else if 0 ≤ lv.getD i 0 ∧ loose (c.getD i 0) = false then false else rs c lv (i + 1) d
section
variable {c lv : List Int} {base : Int}
theorem rs_end (i : Nat) : rs c lv i 0 = true := by rw [rs]
theorem rs_sep {i d : Nat} (h : sep (c.getD i 0) = true) : rs c lv i (d + 1) = true := by rw [rs, if_pos h]
theorem rs_stop {i d : Nat} (h : sep (c.getD i 0) = false) (h1 : 0 ≤ lv.getD i 0) (h2 : loose (c.getD i 0) = false) : rs c lv i (d + 1) = false := by
  rw [rs, if_neg (fun q => Bool.false_ne_true (h.symm.trans q)), if_pos ⟨h1, h2⟩]
theorem rs_on {i d : Nat} (h : sep (c.getD i 0) = false) (h1 : ¬ (0 ≤ lv.getD i 0 ∧ loose (c.getD i 0) = false)) : rs c lv i (d + 1) = rs c lv (i + 1) d := by
  rw [rs, if_neg (fun q => Bool.false_ne_true (h.symm.trans q)), if_neg h1]
/-- A place's level in the line. -/
def li (c lv : List Int) (base : Int) (i d : Nat) : Int := if 0 ≤ lv.getD i 0 ∧ rs c lv i d = true then base else lv.getD i 0
/-- The line. -/
def LI (c lv : List Int) (base : Int) (fr tq : Nat) : List Int := (List.range (tq - fr)).map fun k => li c lv base (fr + k) (tq - (fr + k))
theorem LI_len (fr tq : Nat) : (LI c lv base fr tq).length = tq - fr := by simp [LI]
theorem LI_at {fr tq k : Nat} (h : k < tq - fr) : (LI c lv base fr tq).getD k 0 = li c lv base (fr + k) (tq - (fr + k)) := by simp [LI, List.getD, h]
theorem LI_upto {fr k tq : Nat} (h : k < tq - fr) : (LI c lv base fr tq).take (k + 1) = (LI c lv base fr tq).take k ++ [li c lv base (fr + k) (tq - (fr + k))] := by
  have hk : k < (LI c lv base fr tq).length := by rw [LI_len]; exact h
  rw [List.take_add_one, List.getElem?_eq_getElem hk]
  simp [LI]
theorem LI_from {fr tq : Nat} (h : fr < tq) : LI c lv base fr tq = li c lv base fr (tq - fr) :: LI c lv base (fr + 1) tq := by
  unfold LI
  rw [show tq - fr = (tq - (fr + 1)) + 1 by omega, List.range_succ_eq_map, List.map_cons, List.map_map]
  congr 1
  · rw [Nat.add_zero, show tq - fr = (tq - (fr + 1)) + 1 by omega]
  · refine List.map_congr_left fun k _ => ?_
    simp only [Function.comp, Nat.succ_eq_add_one]
    rw [show fr + (k + 1) = fr + 1 + k by omega]
theorem cut_or (i d : Nat) : li c lv base i d = lv.getD i 0 ∨ (li c lv base i d = base ∧ 0 ≤ lv.getD i 0) := by
  unfold li
  split
  · rename_i h; exact .inr ⟨rfl, h.1⟩
  · exact .inl rfl
theorem cut_keeps {i d : Nat} (h : sep (c.getD i 0) = false) (h2 : loose (c.getD i 0) = false) : li c lv base i (d + 1) = lv.getD i 0 := by
  unfold li
  by_cases h1 : 0 ≤ lv.getD i 0
  · rw [rs_stop h h1 h2, if_neg (by simp)]
  · rw [if_neg (fun q => h1 q.1)]
theorem cut_sep {i d : Nat} (h : sep (c.getD i 0) = true) (h1 : 0 ≤ lv.getD i 0) : li c lv base i (d + 1) = base := by
  unfold li
  rw [if_pos ⟨h1, rs_sep h⟩]
theorem cut_last {i : Nat} (h : loose (c.getD i 0) = true) (h1 : 0 ≤ lv.getD i 0) : li c lv base i 1 = base := by
  unfold li
  rw [if_pos]
  refine ⟨h1, ?_⟩
  rw [rs_on (loose_sep h) (fun q => Bool.false_ne_true (q.2.symm.trans h)), rs_end]
theorem li_unseen {i d : Nat} (h : ¬ 0 ≤ lv.getD i 0) : li c lv base i d = lv.getD i 0 := by
  unfold li
  rw [if_neg (fun q => h q.1)]
/-- The stretch ends at a place: what is to be said of it by its bounds. -/
theorem rs_true {i : Nat} : ∀ d, rs c lv i d = true ↔ ∃ k, k ≤ d ∧ (k = d ∨ sep (c.getD (i + k) 0) = true) ∧ ∀ m, m < k → sep (c.getD (i + m) 0) = true ∨ ¬ (0 ≤ lv.getD (i + m) 0 ∧ loose (c.getD (i + m) 0) = false) := by
  intro d
  induction d generalizing i with
  | zero => exact ⟨fun _ => ⟨0, Nat.le_refl _, .inl rfl, fun m hm => absurd hm (by omega)⟩, fun _ => rs_end i⟩
  | succ d ih =>
    rw [rs]
    split
    · rename_i h
      exact ⟨fun _ => ⟨0, by omega, .inr h, fun m hm => absurd hm (by omega)⟩, fun _ => rfl⟩
    · rename_i h
      split
      · rename_i h2
        refine ⟨fun q => absurd q (by simp), ?_⟩
        rintro ⟨k, h3, h4, h5⟩
        rcases Nat.eq_zero_or_pos k with rfl | hk
        · rcases h4 with h4 | h4
          · omega
          · exact absurd h4 h
        · rcases h5 0 hk with h6 | h6
          · exact absurd h6 h
          · exact absurd h2 h6
      · rename_i h2
        rw [ih]
        constructor
        · rintro ⟨k, h3, h4, h5⟩
          refine ⟨k + 1, by omega, ?_, fun m hm => ?_⟩
          · rw [show i + (k + 1) = i + 1 + k by omega]
            rcases h4 with h4 | h4
            · exact .inl (by omega)
            · exact .inr h4
          · cases m with
            | zero => exact .inr h2
            | succ m =>
              rw [show i + (m + 1) = i + 1 + m by omega]
              exact h5 m (by omega)
        · rintro ⟨k, h3, h4, h5⟩
          cases k with
          | zero =>
            rcases h4 with h4 | h4
            · omega
            · exact absurd h4 h
          | succ k =>
            refine ⟨k, by omega, ?_, fun m hm => ?_⟩
            · rw [show i + 1 + k = i + (k + 1) by omega]
              rcases h4 with h4 | h4
              · exact .inl (by omega)
              · exact .inr h4
            · rw [show i + 1 + m = i + (m + 1) by omega]
              exact h5 (m + 1) (by omega)
end
end Od
end Go.Proofs.YtmdmehopefgndaaGreatDoor

/- A line's levels as the program goes through them, from the end: plain mathematics. -/
namespace Go.Proofs.YtmdmehopefgndaaGreatDoor
set_option linter.unusedVariables false
namespace Od
/-- Behind d places from the end: is all blank between here and what ends a stretch? -/
def txt (c l : List Int) (n : Nat) : Nat → Bool
  | 0 => true
  | d + 1 => if txt c l n d = true then l.getD (n - (d + 1)) 0 == -1 || (sep (c.getD (n - (d + 1)) 0) || loose (c.getD (n - (d + 1)) 0)) else l.getD (n - (d + 1)) 0 != -1 && sep (c.getD (n - (d + 1)) 0)
/-- A place's level in the line. -/
def lx (c l : List Int) (base : Int) (n i : Nat) : Int := if ¬ l.getD i 0 = -1 ∧ (sep (c.getD i 0) = true ∨ (txt c l n (n - 1 - i) = true ∧ loose (c.getD i 0) = true)) then base else l.getD i 0
/-- The line, as far as it is gone through from the end. -/
def LX (c l : List Int) (base : Int) (n k : Nat) : List Int := (List.range n).map fun i => if k ≤ i then lx c l base n i else l.getD i 0
section
variable {c l : List Int} {base : Int} {n : Nat}
theorem LX_len (k : Nat) : (LX c l base n k).length = n := by simp [LX]
theorem LX_at {k i : Nat} (h : i < n) : (LX c l base n k).getD i 0 = if k ≤ i then lx c l base n i else l.getD i 0 := by simp [LX, List.getD, h]
theorem LX_start (h : l.length = n) : LX c l base n n = l := by
  refine List.ext_getElem (by simp [LX, h]) fun i h1 h2 => ?_
  simp only [LX, List.getElem_map, List.getElem_range]
  rw [if_neg (by omega)]
  simp [List.getD, h2]
theorem LX_same {i : Nat} (h : i < n) (he : lx c l base n i = l.getD i 0) : LX c l base n i = LX c l base n (i + 1) := by
  unfold LX
  refine List.map_congr_left fun j _ => ?_
  by_cases e : j = i
  · subst e
    rw [if_pos (Nat.le_refl _), if_neg (by omega), he]
  · by_cases h1 : i ≤ j
    · rw [if_pos h1, if_pos (by omega)]
    · rw [if_neg h1, if_neg (by omega)]
theorem LX_set {i : Nat} (h : i < n) (he : lx c l base n i = base) : (LX c l base n (i + 1)).set i base = LX c l base n i := by
  refine List.ext_getElem (by simp [LX]) fun j h1 h2 => ?_
  rw [List.getElem_set]
  simp only [LX, List.getElem_map, List.getElem_range]
  by_cases e : i = j
  · subst e
    rw [if_pos rfl, if_pos (Nat.le_refl _), he]
  · rw [if_neg e]
    by_cases h3 : i ≤ j
    · rw [if_pos h3, if_pos (by omega)]
    · rw [if_neg h3, if_neg (by omega)]
theorem txt_next {i : Nat} (h : i < n) : txt c l n (n - i) = if txt c l n (n - (i + 1)) = true then l.getD i 0 == -1 || (sep (c.getD i 0) || loose (c.getD i 0)) else l.getD i 0 != -1 && sep (c.getD i 0) := by
  have e : n - i = (n - (i + 1)) + 1 := by omega
  rw [e, txt, show n - (n - (i + 1) + 1) = i by omega]
theorem lx_of {i : Nat} (h : i < n) : lx c l base n i = if ¬ l.getD i 0 = -1 ∧ (sep (c.getD i 0) = true ∨ (txt c l n (n - (i + 1)) = true ∧ loose (c.getD i 0) = true)) then base else l.getD i 0 := by
  unfold lx
  rw [show n - 1 - i = n - (i + 1) by omega]
/-- What is not seen. -/
theorem go_unseen {i : Nat} (h : i < n) (hl : l.getD i 0 = -1) : LX c l base n i = LX c l base n (i + 1) ∧ txt c l n (n - i) = txt c l n (n - (i + 1)) := by
  refine ⟨LX_same h ?_, ?_⟩
  · rw [lx_of h, if_neg (fun q => q.1 hl)]
  · rw [txt_next h, hl]
    by_cases ht : txt c l n (n - (i + 1)) = true
    · rw [if_pos ht, ht]; rfl
    · rw [if_neg ht, (Bool.not_eq_true _).mp ht]; rfl
/-- A separator that is seen. -/
theorem go_sep {i : Nat} (h : i < n) (hl : ¬ l.getD i 0 = -1) (hs : sep (c.getD i 0) = true) : (LX c l base n (i + 1)).set i base = LX c l base n i ∧ txt c l n (n - i) = true := by
  refine ⟨LX_set h ?_, ?_⟩
  · rw [lx_of h, if_pos ⟨hl, .inl hs⟩]
  · rw [txt_next h, hs]
    split
    · simp
    · simpa using hl
/-- A blank ahead of the end of a stretch. -/
theorem go_loose {i : Nat} (h : i < n) (hl : ¬ l.getD i 0 = -1) (hs : loose (c.getD i 0) = true) (ht : txt c l n (n - (i + 1)) = true) : (LX c l base n (i + 1)).set i base = LX c l base n i ∧ txt c l n (n - i) = true := by
  refine ⟨LX_set h ?_, ?_⟩
  · rw [lx_of h, if_pos ⟨hl, .inr ⟨ht, hs⟩⟩]
  · rw [txt_next h, if_pos ht, hs]
    simp
/-- What is neither, or stands ahead of something that is neither. -/
theorem go_text {i : Nat} (h : i < n) (hl : ¬ l.getD i 0 = -1) (hs : sep (c.getD i 0) = false) (ht : txt c l n (n - (i + 1)) = false ∨ loose (c.getD i 0) = false) : LX c l base n i = LX c l base n (i + 1) ∧ txt c l n (n - i) = false := by
  have hs2 : ¬ sep (c.getD i 0) = true := by rw [hs]; exact Bool.false_ne_true
  refine ⟨LX_same h ?_, ?_⟩
  · rw [lx_of h, if_neg]
    rintro ⟨_, q | ⟨q1, q2⟩⟩
    · exact hs2 q
    · rcases ht with ht | ht
      · rw [ht] at q1; cases q1
      · rw [ht] at q2; cases q2
  · rw [txt_next h, hs]
    split
    · rename_i h1
      rcases ht with ht | ht
      · rw [ht] at h1; cases h1
      · rw [ht]; simpa using hl
    · simp
theorem lx_or (i : Nat) : lx c l base n i = l.getD i 0 ∨ (lx c l base n i = base ∧ ¬ l.getD i 0 = -1) := by
  unfold lx
  split
  · rename_i h; exact .inr ⟨rfl, h.1⟩
  · exact .inl rfl
theorem lx_keeps {i : Nat} (h : sep (c.getD i 0) = false) (h2 : loose (c.getD i 0) = false) : lx c l base n i = l.getD i 0 := by
  unfold lx
  rw [h, h2]
  simp
theorem lx_sep {i : Nat} (h : sep (c.getD i 0) = true) (h1 : ¬ l.getD i 0 = -1) : lx c l base n i = base := by
  unfold lx
  rw [if_pos ⟨h1, .inl h⟩]
theorem lx_last (hn : 0 < n) (h : loose (c.getD (n - 1) 0) = true) (h1 : ¬ l.getD (n - 1) 0 = -1) : lx c l base n (n - 1) = base := by
  unfold lx
  rw [if_pos]
  refine ⟨h1, .inr ⟨?_, h⟩⟩
  rw [Nat.sub_self]
  rfl
end
end Od
end Go.Proofs.YtmdmehopefgndaaGreatDoor

/- Where no separator is unseen, the program's line is the document's: plain mathematics. -/
namespace Go.Proofs.YtmdmehopefgndaaGreatDoor
set_option linter.unusedVariables false
namespace Od
/-- Each separator is seen, and what is not seen has the level -1. -/
def Seps (c l : List Int) : Prop := ∀ i, i < l.length → -1 ≤ l.getD i 0 ∧ (sep (c.getD i 0) = true → 0 ≤ l.getD i 0)
section
variable {c l : List Int} {base : Int} {n : Nat}
theorem txt_rs (h : Seps c l) (hn : l.length = n) : ∀ d, d ≤ n → txt c l n d = rs c l (n - d) d
  | 0, _ => by rw [txt, rs]
  | d + 1, hd => by
    have ih := txt_rs h hn d (by omega)
    have hi : n - (d + 1) < l.length := by omega
    obtain ⟨h1, h2⟩ := h _ hi
    have e1 : n - (d + 1) + 1 = n - d := by omega
    rw [txt, ih]
    generalize hx : c.getD (n - (d + 1)) 0 = x at *
    generalize hv : l.getD (n - (d + 1)) 0 = v at *
    by_cases hs : sep x = true
    · rw [rs_sep (by rw [hx]; exact hs), hs]
      have := h2 hs
      have hv1 : (v != -1) = true := bne_iff_ne.2 (by omega)
      rw [hv1]
      simp
    · have hsf := (Bool.not_eq_true _).mp hs
      by_cases hst : 0 ≤ v ∧ loose x = false
      · rw [rs_stop (by rw [hx]; exact hsf) (by rw [hv]; exact hst.1) (by rw [hx]; exact hst.2), hsf, hst.2]
        have hv1 : (v == -1) = false := beq_eq_false_iff_ne.2 (by omega)
        rw [hv1]
        simp
      · rw [rs_on (by rw [hx]; exact hsf) (by rw [hx, hv]; exact hst), e1, hsf]
        have hor : (v == -1 || (false || loose x)) = true := by
          by_cases hl : loose x = true
          · rw [hl]; simp
          · have hv1 : v = -1 := by
              by_cases h0 : 0 ≤ v
              · exact absurd ⟨h0, (Bool.not_eq_true _).mp hl⟩ hst
              · omega
            rw [hv1]; rfl
        rw [hor]
        by_cases hr : rs c l (n - d) d = true
        · rw [if_pos hr, hr]
        · rw [if_neg hr, (Bool.not_eq_true _).mp hr]; simp
theorem lx_li (h : Seps c l) (hn : l.length = n) {i : Nat} (hi : i < n) : lx c l base n i = li c l base i (n - i) := by
  obtain ⟨h1, h2⟩ := h i (by omega)
  have hT := txt_rs h hn (n - (i + 1)) (by omega)
  have e1 : n - (n - (i + 1)) = i + 1 := by omega
  rw [e1] at hT
  rw [lx_of hi, hT]
  unfold li
  obtain ⟨d, hd⟩ : ∃ d, n - i = d + 1 := ⟨n - (i + 1), by omega⟩
  have hd2 : n - (i + 1) = d := by omega
  rw [hd, hd2]
  by_cases hv : 0 ≤ l.getD i 0
  · have hv1 : ¬ l.getD i 0 = -1 := by omega
    by_cases hs : sep (c.getD i 0) = true
    · rw [if_pos ⟨hv1, .inl hs⟩, if_pos ⟨hv, rs_sep hs⟩]
    · have hsf := (Bool.not_eq_true _).mp hs
      by_cases hl : loose (c.getD i 0) = true
      · have e2 := rs_on (c := c) (lv := l) (i := i) (d := d) hsf (fun q => by rw [hl] at q; cases q.2)
        rw [e2]
        by_cases hr : rs c l (i + 1) d = true
        · rw [if_pos ⟨hv1, .inr ⟨hr, hl⟩⟩, if_pos ⟨hv, hr⟩]
        · rw [if_neg (fun q => q.2.elim hs fun q => hr q.1), if_neg (fun q => hr q.2)]
      · have hlf := (Bool.not_eq_true _).mp hl
        rw [if_neg (fun q => q.2.elim hs fun q => hl q.2), if_neg (fun q => by rw [rs_stop hsf hv hlf] at q; cases q.2)]
  · have hv1 : l.getD i 0 = -1 := by omega
    rw [if_neg (fun q => q.1 hv1), if_neg (fun q => hv q.1)]
/-- A whole paragraph as one line. -/
theorem LX_LI (h : Seps c l) (hn : l.length = n) : LX c l base n 0 = LI c l base 0 n := by
  unfold LX LI
  rw [Nat.sub_zero]
  refine List.map_congr_left fun i hi => ?_
  rw [List.mem_range] at hi
  rw [if_pos (Nat.zero_le _), Nat.zero_add]
  exact lx_li h hn hi
end
end Od
end Go.Proofs.YtmdmehopefgndaaGreatDoor

/- A row of ints that grows by one append a round. -/
namespace Go.Proofs.YtmdmehopefgndaaGreatDoor
open Go.RowKit
set_option linter.unusedVariables false
/-- A row that grows by one append a round. -/
structure RG (w : World) (zs : List Int) (k : Nat) (sv : Value) (wr : World) : Prop where
  own : wr.ownsRow w.heap.size 3 1 sv k (zs.map (Value.int .i64))
  bel : Below w.heap.size w wr
theorem RG.snoc {w : World} {zs ys : List Int} {k : Nat} {x : Int} {v2 : Value} {wr w2 : World} {o : Obj} (hw : Below w.heap.size w wr) (hb : Below w.heap.size (wr.alloc o) w2) (ho : w2.ownsRow w.heap.size 3 1 v2 (k + 1) (zs.map (Value.int .i64) ++ [x].map (Value.int .i64))) (hy : ys = zs ++ [x]) : RG w ys (k + 1) v2 w2 :=
  ⟨by rw [hy, List.map_append]; exact ho, Below.trans (Below.alloc hw hw.size _) hb⟩
theorem RG.snoc2 {w : World} {zs ys : List Int} {k : Nat} {x : Int} {v2 : Value} {X w2 : World} (hw : Below w.heap.size w X) (hb : Below w.heap.size X w2) (ho : w2.ownsRow w.heap.size 3 1 v2 (k + 1) (zs.map (Value.int .i64) ++ [x].map (Value.int .i64))) (hy : ys = zs ++ [x]) : RG w ys (k + 1) v2 w2 :=
  ⟨by rw [hy, List.map_append]; exact ho, Below.trans hw hb⟩
end Go.Proofs.YtmdmehopefgndaaGreatDoor
