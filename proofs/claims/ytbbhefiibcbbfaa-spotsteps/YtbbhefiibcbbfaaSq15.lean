/- Lines of one parity; a walk through a line, and what is shown of it: plain mathematics. -/
import Derived.Test.YtbbhefiibcbbfaaSp15
namespace Go.Proofs.Ytbbhefiibcbbfaa
set_option linter.unusedVariables false
namespace Spt
theorem OD_evens {a : List Int} (hf : Od.Fo a) (h : ∀ i, i < a.length → 0 ≤ a.getD i 0 ∧ a.getD i 0 % 2 = 0) : Od.OD a = List.range a.length := by
  have hsn : ∀ z, Od.sn a z = true ↔ z < a.length := fun z => ⟨fun q => (Od.sn_at q).1, fun q => Od.sn_of (h z q).1 q⟩
  refine Od.Vis.eq (Od.OD_vis hf) ⟨?_, fun z => by rw [List.mem_range, hsn]⟩
  refine List.pairwise_lt_range.imp_of_mem ?_
  intro i j hi hj hij
  rw [List.mem_range] at hi hj
  obtain ⟨z, hz, _, e⟩ := Od.le_is (h i hi).1 (h j hj).1
  unfold Od.Lf
  rw [e, if_pos (h z (by omega)).2]
  exact hij
theorem OD_odds {a : List Int} (hf : Od.Fo a) (h : ∀ i, i < a.length → 0 ≤ a.getD i 0 ∧ a.getD i 0 % 2 = 1) : Od.OD a = (List.range a.length).reverse := by
  have hsn : ∀ z, Od.sn a z = true ↔ z < a.length := fun z => ⟨fun q => (Od.sn_at q).1, fun q => Od.sn_of (h z q).1 q⟩
  refine Od.Vis.eq (Od.OD_vis hf) ⟨List.pairwise_reverse.2 ?_, fun z => by rw [List.mem_reverse, List.mem_range, hsn]⟩
  refine List.pairwise_lt_range.imp_of_mem ?_
  intro i j hi hj hij
  rw [List.mem_range] at hi hj
  obtain ⟨z, hz, _, e⟩ := Od.le_is (h j hj).1 (h i hi).1
  unfold Od.Lf
  rw [e, if_neg (by have := (h z (by omega)).2; omega)]
  exact hij
theorem sn_al {l : List Int} {b : Int} {i : Nat} (h : i < l.length) : Od.sn (al l b) i = Od.sn l i := by
  unfold Od.sn
  rw [al_at h, al_len]
  simp [h, Nat.lt_succ_of_lt h]
theorem le_al {l : List Int} {b : Int} {x y : Nat} (hx : Od.sn l x = true) (hy : Od.sn l y = true) : Od.le (al l b) x y = Od.le l x y := by
  obtain ⟨x1, x2⟩ := Od.sn_at hx
  obtain ⟨y1, y2⟩ := Od.sn_at hy
  have x3 : 0 ≤ (al l b).getD x 0 := by rw [al_at x1]; exact x2
  have y3 : 0 ≤ (al l b).getD y 0 := by rw [al_at y1]; exact y2
  obtain ⟨z, hz, z0, e⟩ := Od.le_is x2 y2
  obtain ⟨u, hu, u0, f⟩ := Od.le_is x3 y3
  have h1 : Od.le (al l b) x y ≤ (al l b).getD z 0 := Od.le_le x3 y3 (by rw [al_at (by omega)]; exact z0) hz
  have h2 : Od.le l x y ≤ l.getD u 0 := by
    rw [al_at (by omega)] at u0
    exact Od.le_le x2 y2 u0 hu
  rw [al_at (by omega)] at h1 f
  omega
/-- The visual order with the end, without it. -/
theorem OD_cut {l : List Int} {b : Int} (hb : b = 0 ∨ b = 1) (hf : Od.Fo l) : (Od.OD (al l b)).filter (fun x => decide (x < l.length)) = Od.OD l := by
  have hv := Od.OD_vis ((al_fo hb).2 hf)
  refine Od.Vis.eq ⟨?_, fun z => ?_⟩ (Od.OD_vis hf)
  · refine (List.Pairwise.filter _ hv.pw).imp_of_mem ?_
    intro x y hx hy h
    obtain ⟨hx1, hx2⟩ := List.mem_filter.1 hx
    obtain ⟨hy1, hy2⟩ := List.mem_filter.1 hy
    have hx3 := (hv.mem x).1 hx1
    have hy3 := (hv.mem y).1 hy1
    rw [sn_al (of_decide_eq_true hx2)] at hx3
    rw [sn_al (of_decide_eq_true hy2)] at hy3
    unfold Od.Lf at h ⊢
    rwa [le_al hx3 hy3] at h
  · rw [List.mem_filter, hv.mem]
    constructor
    · rintro ⟨h1, h2⟩
      rwa [sn_al (of_decide_eq_true h2)] at h1
    · intro h
      have := (Od.sn_at h).1
      exact ⟨by rw [sn_al this]; exact h, decide_eq_true this⟩
theorem OD_cut_len {l : List Int} {b : Int} (hb : b = 0 ∨ b = 1) : (Od.OD (al l b)).length = (Od.OD l).length + 1 := by
  rw [Od.OD_len, Od.OD_len]
  unfold Od.K
  rw [al_len, List.range_succ, List.filter_append, List.length_append]
  have h1 : (List.range l.length).filter (Od.sn (al l b)) = (List.range l.length).filter (Od.sn l) := List.filter_congr fun x hx => sn_al (List.mem_range.1 hx)
  have h2 : Od.sn (al l b) l.length = true := Od.sn_of (by rw [al_end]; omega) (by rw [al_len]; omega)
  rw [h1]
  simp [h2]
/-- How many of the first n hold. -/
def kc (P : List Nat) (p : Nat → Bool) (n : Nat) : Nat := ((P.take n).filter p).length
theorem kc_zero (P : List Nat) (p : Nat → Bool) : kc P p 0 = 0 := rfl
theorem kc_step {P : List Nat} {p : Nat → Bool} {n : Nat} (hn : n < P.length) : kc P p (n + 1) = kc P p n + (if p (P.getD n 0) = true then 1 else 0) := by
  unfold kc
  rw [List.take_succ_eq_append_getElem hn, List.filter_append, List.length_append]
  have e : P.getD n 0 = P[n] := by simp [List.getD, hn]
  rw [e]
  by_cases h : p P[n] = true
  · simp [h]
  · simp [h]
theorem kc_all (P : List Nat) (p : Nat → Bool) : kc P p P.length = (P.filter p).length := by unfold kc; rw [List.take_length]
theorem filter_at {P : List Nat} {p : Nat → Bool} {n : Nat} (hn : n < P.length) (h : p (P.getD n 0) = true) : kc P p n < (P.filter p).length ∧ (P.filter p).getD (kc P p n) 0 = P.getD n 0 := by
  have e : P.getD n 0 = P[n] := by simp [List.getD, hn]
  have hP : P.filter p = (P.take n).filter p ++ P[n] :: (P.drop (n + 1)).filter p := by
    have h2 : P = P.take n ++ P[n] :: P.drop (n + 1) := by rw [← List.drop_eq_getElem_cons hn, List.take_append_drop]
    have h3 := congrArg (List.filter p) h2
    rw [e] at h
    rw [List.filter_append, List.filter_cons_of_pos h] at h3
    exact h3
  rw [hP]
  unfold kc
  constructor
  · rw [List.length_append]; simp
  · rw [e]
    simp [List.getD]
end Spt
end Go.Proofs.Ytbbhefiibcbbfaa
