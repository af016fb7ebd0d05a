/- The visual order: there is just one; where a place stands in it: plain mathematics. -/
import Derived.Test.YtmcbldllbnjipaaOa
namespace Go.Proofs.Ytmcbldllbnjipaa
set_option linter.unusedVariables false
namespace Od
/-- Two lists of the same places, each one behind the other by one relation. -/
theorem sorted_eq {S : Nat → Nat → Prop} (ha : ∀ x y, S x y → ¬ S y x) : ∀ (P Q : List Nat), P.Pairwise S → Q.Pairwise S → (∀ z, z ∈ P ↔ z ∈ Q) → P = Q
  | [], Q, _, _, h => by
    cases Q with
    | nil => rfl
    | cons y Q => exact absurd ((h y).2 List.mem_cons_self) (by simp)
  | x :: P, [], _, _, h => absurd ((h x).1 List.mem_cons_self) (by simp)
  | x :: P, y :: Q, hP, hQ, h => by
    obtain ⟨p1, p2⟩ := List.pairwise_cons.1 hP
    obtain ⟨q1, q2⟩ := List.pairwise_cons.1 hQ
    have hxy : x = y := by
      by_cases e : x = y
      · exact e
      · have hx : x ∈ Q := by
          rcases List.mem_cons.1 ((h x).1 List.mem_cons_self) with h0 | h0
          · exact absurd h0 e
          · exact h0
        have hy : y ∈ P := by
          rcases List.mem_cons.1 ((h y).2 List.mem_cons_self) with h0 | h0
          · exact absurd h0.symm e
          · exact h0
        exact absurd (q1 x hx) (ha _ _ (p1 y hy))
    subst hxy
    congr 1
    refine sorted_eq ha P Q p2 q2 fun z => ⟨fun hz => ?_, fun hz => ?_⟩
    · rcases List.mem_cons.1 ((h z).1 (List.mem_cons_of_mem _ hz)) with rfl | h0
      · exact absurd (p1 z hz) (ha _ _ (p1 z hz))
      · exact h0
    · rcases List.mem_cons.1 ((h z).2 (List.mem_cons_of_mem _ hz)) with rfl | h0
      · exact absurd (q1 z hz) (ha _ _ (q1 z hz))
      · exact h0
/-- The visual order, and what it is. -/
structure Vis (lv : List Int) (P : List Nat) : Prop where
  pw : P.Pairwise (Lf lv)
  mem : ∀ z, z ∈ P ↔ sn lv z = true
theorem Vis.eq {lv : List Int} {P Q : List Nat} (h : Vis lv P) (h' : Vis lv Q) : P = Q :=
  sorted_eq (fun _ _ => Lf_asymm) P Q h.pw h'.pw fun z => (h.mem z).trans (h'.mem z).symm
def OD (lv : List Int) : List Nat := down lv 127 127
/-- Levels as they may be. -/
def Fo (lv : List Int) : Prop := ∀ i, i < lv.length → -1 ≤ lv.getD i 0 ∧ lv.getD i 0 ≤ 127
theorem le_low {lv : List Int} {x y : Nat} (hx : sn lv x = true) (hy : sn lv y = true) : 0 ≤ le lv x y := le_ge (sn_at hx).2 (sn_at hy).2 fun z _ h => h
/-- Any turning down to an odd level below which no odd one is seen, or to 1. -/
theorem vis_of {lv : List Int} {k : Int} {P : List Nat} (hk : k % 2 = 0) (h : By lv k P) (hodd : ∀ z, sn lv z = true → lv.getD z 0 ≤ k → lv.getD z 0 % 2 = 0) : Vis lv P := by
  refine ⟨h.pw.imp_of_mem ?_, h.mem⟩
  intro x y hx hy hb
  have sx := (h.mem x).1 hx
  have sy := (h.mem y).1 hy
  refine (Bf_Lf hk (le_low sx sy) fun hle => ?_).1 hb
  obtain ⟨z, h1, h2, h3⟩ := le_is (x := x) (y := y) (sn_at sx).2 (sn_at sy).2
  rw [h3] at hle ⊢
  have := (sn_at sx).1
  have := (sn_at sy).1
  exact hodd z (sn_of h2 (by omega)) hle
theorem OD_vis {lv : List Int} (h : Fo lv) : Vis lv (OD lv) := by
  have hb := down_by (lv := lv) (k := 127) (fun i hi => (h i hi).2) 127
  refine vis_of (k := 0) rfl hb fun z hz hle => ?_
  have := (sn_at hz).2
  rw [show lv.getD z 0 = 0 by omega]
  rfl
theorem OD_perm (lv : List Int) : (OD lv).Perm (K lv) := down_perm 127 127
theorem OD_len (lv : List Int) : (OD lv).length = (K lv).length := (OD_perm lv).length_eq
theorem OD_lt {lv : List Int} (h : Fo lv) {x : Nat} (hx : x ∈ OD lv) : x < lv.length := (sn_at (((OD_vis h).mem x).1 hx)).1
theorem OD_nodup {lv : List Int} (h : Fo lv) : (OD lv).Nodup := by
  refine (OD_vis h).pw.imp ?_
  rintro x y hxy rfl
  exact Lf_asymm hxy hxy
instance (lv : List Int) (x y : Nat) : Decidable (Lf lv x y) := by unfold Lf; exact inferInstance
/-- How many stand further left. -/
def cnt (lv : List Int) (i : Nat) : Nat → Nat
  | 0 => 0
  | k + 1 => if sn lv k = true ∧ Lf lv k i then cnt lv i k + 1 else cnt lv i k
theorem cnt_filter (lv : List Int) (i : Nat) : ∀ k, cnt lv i k = (((List.range k).filter (sn lv)).filter fun j => decide (Lf lv j i)).length
  | 0 => rfl
  | k + 1 => by
    rw [cnt, List.range_succ, List.filter_append, List.filter_append, List.length_append, ← cnt_filter lv i k]
    by_cases h1 : sn lv k = true
    · by_cases h2 : Lf lv k i
      · rw [if_pos ⟨h1, h2⟩]; simp [h1, h2]
      · rw [if_neg (fun q => h2 q.2)]; simp [h1, h2]
    · rw [if_neg (fun q => h1 q.1)]; simp [h1]
theorem rank {S : Nat → Nat → Prop} [∀ x y, Decidable (S x y)] (ha : ∀ x y, S x y → ¬ S y x) {l1 l2 : List Nat} {x : Nat} (h : (l1 ++ x :: l2).Pairwise S) : ((l1 ++ x :: l2).filter fun y => decide (S y x)).length = l1.length := by
  obtain ⟨_, h2, h3⟩ := List.pairwise_append.1 h
  obtain ⟨h4, _⟩ := List.pairwise_cons.1 h2
  rw [List.filter_append, List.length_append, List.filter_cons]
  have e1 : l1.filter (fun y => decide (S y x)) = l1 := List.filter_eq_self.2 fun y hy => decide_eq_true (h3 y hy x (by simp))
  have e2 : l2.filter (fun y => decide (S y x)) = [] := List.filter_eq_nil_iff.2 fun y hy => by simpa using ha _ _ (h4 y hy)
  have e3 : ¬ S x x := fun q => ha _ _ q q
  rw [e1, e2, if_neg (by simpa using e3)]
  simp
theorem cnt_at {lv : List Int} (h : Fo lv) {i : Nat} (hi : i < (OD lv).length) : cnt lv ((OD lv).getD i 0) lv.length = i := by
  have hv := OD_vis h
  rw [cnt_filter]
  have e : (OD lv).getD i 0 = (OD lv)[i] := by simp [List.getD, hi]
  rw [e]
  obtain ⟨l1, l2, h1, h2⟩ : ∃ l1 l2, OD lv = l1 ++ (OD lv)[i] :: l2 ∧ l1.length = i :=
    ⟨(OD lv).take i, (OD lv).drop (i + 1), by rw [← List.drop_eq_getElem_cons hi, List.take_append_drop], by rw [List.length_take]; omega⟩
  generalize (OD lv)[i] = x at *
  have hp := ((OD_perm lv).filter fun y => decide (Lf lv y x)).length_eq
  have hr := rank (S := Lf lv) (fun _ _ => Lf_asymm) (by rw [← h1]; exact hv.pw)
  rw [← h1] at hr
  have : ((K lv).filter fun y => decide (Lf lv y x)).length = l1.length := by rw [← hp, hr]
  unfold K at this
  rw [this, h2]
/-- The order, as far as places below k are put. -/
def OUT (lv : List Int) (k : Nat) : List Int := (OD lv).map fun x => if x < k then (x : Int) else 0
theorem OUT_zero (lv : List Int) : OUT lv 0 = List.replicate (K lv).length 0 := by
  rw [← OD_len]
  refine List.ext_getElem (by simp [OUT]) fun i h1 h2 => ?_
  simp [OUT]
theorem OUT_skip {lv : List Int} (h : Fo lv) {k : Nat} (hk : sn lv k = false) : OUT lv (k + 1) = OUT lv k := by
  unfold OUT
  refine List.map_congr_left fun x hx => ?_
  have hx2 := ((OD_vis h).mem x).1 hx
  have : ¬ x = k := by rintro rfl; rw [hk] at hx2; cases hx2
  by_cases h1 : x < k
  · rw [if_pos h1, if_pos (by omega)]
  · rw [if_neg h1, if_neg (by omega)]
theorem cnt_lt {lv : List Int} (h : Fo lv) {k : Nat} (hk : sn lv k = true) : cnt lv k lv.length < (OD lv).length ∧ (OD lv).getD (cnt lv k lv.length) 0 = k := by
  have hm := ((OD_vis h).mem k).2 hk
  obtain ⟨i, hi, e⟩ := List.getElem_of_mem hm
  have e2 : (OD lv).getD i 0 = k := by simp [List.getD, hi, e]
  have := cnt_at h hi
  rw [e2] at this
  rw [this]
  exact ⟨hi, e2⟩
theorem OUT_put {lv : List Int} (h : Fo lv) {k : Nat} (hk : sn lv k = true) : (OUT lv k).set (cnt lv k lv.length) (k : Int) = OUT lv (k + 1) := by
  obtain ⟨h1, h2⟩ := cnt_lt h hk
  have hnd := OD_nodup h
  generalize cnt lv k lv.length = c at *
  unfold OUT
  refine List.ext_getElem (by simp) fun i i1 i2 => ?_
  simp only [List.length_set, List.length_map] at i1
  rw [List.getElem_set]
  simp only [List.getElem_map]
  have hc : (OD lv)[c] = k := by rw [← h2]; simp [List.getD, h1]
  by_cases e : c = i
  · subst e
    rw [if_pos rfl, hc, if_pos (by omega)]
  · rw [if_neg e]
    have hne : ¬ (OD lv)[i] = k := fun q => e ((List.getElem_inj hnd).1 (hc.trans q.symm))
    by_cases hlt : (OD lv)[i] < k
    · rw [if_pos hlt, if_pos (by omega)]
    · rw [if_neg hlt, if_neg (by omega)]
theorem OUT_end {lv : List Int} (h : Fo lv) : OUT lv lv.length = (OD lv).map fun (x : Nat) => (x : Int) := by
  unfold OUT
  refine List.map_congr_left fun x hx => ?_
  rw [if_pos (OD_lt h hx)]
end Od
end Go.Proofs.Ytmcbldllbnjipaa
