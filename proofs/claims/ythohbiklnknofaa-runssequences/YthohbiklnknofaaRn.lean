/- Level runs: plain mathematics. No Go in sight. -/
import Derived.Test.YthohbiklnknofaaLists
namespace Go.Proofs.Ythohbiklnknofaa.Rn
set_option linter.unusedVariables false
def zs (l : List Nat) : List Int := l.map fun (i : Nat) => (i : Int)
theorem zs_len (l : List Nat) : (zs l).length = l.length := by simp [zs]
theorem zs_append (a b : List Nat) : zs (a ++ b) = zs a ++ zs b := by simp [zs]
theorem zs_at (l : List Nat) (j : Nat) (h : j < l.length) : (zs l).getD j 0 = ((l.getD j 0 : Nat) : Int) := by
  simp [zs, List.getD, h]
/-- Is a place kept? -/
def kp (lv : List Int) (i : Nat) : Bool := decide (0 ≤ lv.getD i 0)
/-- A run; its first place, its last one. -/
def rn (rs : List (List Nat)) (j : Nat) : List Nat := rs.getD j []
def fst (rs : List (List Nat)) (j : Nat) : Nat := (rn rs j).getD 0 0
def lst (rs : List (List Nat)) (j : Nat) : Nat := (rn rs j).getD ((rn rs j).length - 1) 0
/-- One place more in the last run. -/
def grow (rs : List (List Nat)) (k : Nat) : List (List Nat) := rs.set (rs.length - 1) (rn rs (rs.length - 1) ++ [k])
theorem rn_snoc (a : List (List Nat)) (r : List Nat) : rn (a ++ [r]) a.length = r := by simp [rn, List.getD]
theorem rn_left (a b : List (List Nat)) (j : Nat) (h : j < a.length) : rn (a ++ b) j = rn a j := by simp [rn, List.getD, List.getElem?_append_left h]
theorem grow_snoc (a : List (List Nat)) (r : List Nat) (k : Nat) : grow (a ++ [r]) k = a ++ [r ++ [k]] := by
  unfold grow
  rw [List.length_append, List.length_singleton, Nat.add_sub_cancel, rn_snoc, List.set_append_right _ _ (Nat.le_refl _), Nat.sub_self]
  rfl
/-- The level of the last run, and the runs, behind k places. -/
def R (lv : List Int) : Nat → Int × List (List Nat)
  | 0 => (-1, [])
  | k + 1 => if lv.getD k 0 < 0 then R lv k else if lv.getD k 0 = (R lv k).1 then ((R lv k).1, grow (R lv k).2 k) else (lv.getD k 0, grow ((R lv k).2 ++ [[]]) k)
def RS (lv : List Int) : List (List Nat) := (R lv lv.length).2
theorem R_neg {lv : List Int} {k : Nat} (h : lv.getD k 0 < 0) : R lv (k + 1) = R lv k := by rw [R, if_pos h]
theorem R_same {lv : List Int} {k : Nat} (h : ¬ lv.getD k 0 < 0) (h1 : lv.getD k 0 = (R lv k).1) : R lv (k + 1) = ((R lv k).1, grow (R lv k).2 k) := by rw [R, if_neg h, if_pos h1]
theorem R_new {lv : List Int} {k : Nat} (h : ¬ lv.getD k 0 < 0) (h1 : ¬ lv.getD k 0 = (R lv k).1) : R lv (k + 1) = (lv.getD k 0, grow ((R lv k).2 ++ [[]]) k) := by rw [R, if_neg h, if_neg h1]
structure RI (lv : List Int) (k : Nat) (l : Int) (rs : List (List Nat)) : Prop where
  flat : rs.flatten = (List.range k).filter (kp lv)
  ne : ∀ r ∈ rs, r ≠ []
  lev : ∀ r ∈ rs, ∀ i ∈ r, lv.getD i 0 = lv.getD (r.getD 0 0) 0
  adj : ∀ j, j + 1 < rs.length → lv.getD (fst rs j) 0 ≠ lv.getD (fst rs (j + 1)) 0
  last : (rs = [] ∧ l = -1) ∨ (∃ a r, rs = a ++ [r] ∧ lv.getD (r.getD 0 0) 0 = l ∧ 0 ≤ l)
theorem head_snoc {r : List Nat} (h : r ≠ []) (k : Nat) : (r ++ [k]).getD 0 0 = r.getD 0 0 := by
  cases r with
  | nil => exact absurd rfl h
  | cons x t => simp [List.getD]
theorem fst_snoc (a : List (List Nat)) (r : List Nat) : fst (a ++ [r]) a.length = r.getD 0 0 := by unfold fst; rw [rn_snoc]
theorem fst_left (a b : List (List Nat)) (j : Nat) (h : j < a.length) : fst (a ++ b) j = fst a j := by unfold fst; rw [rn_left a b j h]
theorem RI.all (lv : List Int) : ∀ k, RI lv k (R lv k).1 (R lv k).2 := by
  intro k
  induction k with
  | zero => exact ⟨by simp [R], by simp [R], by simp [R], by simp [R], .inl ⟨rfl, rfl⟩⟩
  | succ k ih =>
    by_cases h0 : lv.getD k 0 < 0
    · rw [R_neg h0]
      refine ⟨?_, ih.ne, ih.lev, ih.adj, ih.last⟩
      have hk : kp lv k = false := by unfold kp; rw [decide_eq_false]; omega
      rw [List.range_succ, List.filter_append, ih.flat]
      simp [hk]
    · have hk : kp lv k = true := by unfold kp; rw [decide_eq_true_iff]; omega
      have hf : (List.range (k + 1)).filter (kp lv) = (R lv k).2.flatten ++ [k] := by
        rw [List.range_succ, List.filter_append, ih.flat]
        simp [hk]
      by_cases h1 : lv.getD k 0 = (R lv k).1
      · rw [R_same h0 h1]
        rcases ih.last with ⟨_, h2⟩ | ⟨a, r, h2, h3, h4⟩
        · omega
        · have hne : r ≠ [] := ih.ne r (by rw [h2]; simp)
          have hlv := ih.lev
          have hadj := ih.adj
          have hnn := ih.ne
          simp only
          rw [h2] at hf hlv hadj hnn ⊢
          rw [grow_snoc]
          refine ⟨?_, ?_, ?_, ?_, ?_⟩
          · rw [hf]; simp
          · intro q hq
            rcases List.mem_append.1 hq with hq | hq
            · exact hnn q (by simp [hq])
            · rw [List.mem_singleton.1 hq]; simp
          · intro q hq i hi
            rcases List.mem_append.1 hq with hq | hq
            · exact hlv q (by simp [hq]) i hi
            · rw [List.mem_singleton.1 hq] at hi ⊢
              rw [head_snoc hne]
              rcases List.mem_append.1 hi with hi | hi
              · exact hlv r (by simp) i hi
              · rw [List.mem_singleton.1 hi, h1, h3]
          · intro j hj
            have hj' : j + 1 < (a ++ [r]).length := by simpa using hj
            have := hadj j hj'
            have e : ∀ m, m < (a ++ [r]).length → fst (a ++ [r ++ [k]]) m = fst (a ++ [r]) m := by
              intro m hm
              by_cases hm2 : m < a.length
              · rw [fst_left _ _ _ hm2, fst_left _ _ _ hm2]
              · obtain rfl : m = a.length := by simp at hm; omega
                rw [fst_snoc, fst_snoc, head_snoc hne]
            rw [e j (by omega), e (j + 1) hj']
            exact this
          · exact .inr ⟨a, r ++ [k], rfl, by rw [head_snoc hne, h3], h4⟩
      · rw [R_new h0 h1]
        simp only
        rw [grow_snoc]
        refine ⟨?_, ?_, ?_, ?_, ?_⟩
        · rw [hf]; simp
        · intro q hq
          rcases List.mem_append.1 hq with hq | hq
          · exact ih.ne q hq
          · rw [List.mem_singleton.1 hq]; simp
        · intro q hq i hi
          rcases List.mem_append.1 hq with hq | hq
          · exact ih.lev q hq i hi
          · rw [List.mem_singleton.1 hq] at hi ⊢
            simp at hi
            subst hi
            simp
        · intro j hj
          rw [List.length_append, List.length_singleton] at hj
          by_cases hj2 : j + 1 < (R lv k).2.length
          · rw [fst_left _ _ _ (by omega), fst_left _ _ _ hj2]
            exact ih.adj j hj2
          · obtain hj3 : j + 1 = (R lv k).2.length := by omega
            rw [hj3, fst_snoc, fst_left _ _ _ (by omega)]
            rcases ih.last with ⟨h2, _⟩ | ⟨a, r, h2, h3, h4⟩
            · rw [h2] at hj3; simp at hj3
            · rw [h2] at hj3 ⊢
              obtain rfl : j = a.length := by simp at hj3; omega
              rw [fst_snoc, h3]
              simp
              exact fun h => h1 h.symm
        · exact .inr ⟨(R lv k).2, [k], by simp, by simp, by omega⟩
/-- Nothing is kept between two places. -/
def Adj (lv : List Int) (x y : Nat) : Prop := x < y ∧ ∀ z, x < z → z < y → kp lv z = false
theorem keptSorted (lv : List Int) (n : Nat) : ((List.range n).filter (kp lv)).Pairwise (· < ·) := List.Pairwise.filter _ List.pairwise_lt_range
theorem adj_of {lv : List Int} {n : Nat} {A B : List Nat} {x y : Nat} (h : (List.range n).filter (kp lv) = A ++ x :: y :: B) : Adj lv x y := by
  have hs := keptSorted lv n
  have hm : ∀ z, z < n → kp lv z = true → z ∈ (List.range n).filter (kp lv) := fun z h1 h2 => List.mem_filter.2 ⟨List.mem_range.2 h1, h2⟩
  have hy : y < n := List.mem_range.1 (List.mem_filter.1 (show y ∈ (List.range n).filter (kp lv) from by rw [h]; simp)).1
  rw [h] at hs hm
  obtain ⟨h1, h2, h3⟩ := List.pairwise_append.1 hs
  obtain ⟨h4, h5⟩ := List.pairwise_cons.1 h2
  obtain ⟨h6, h7⟩ := List.pairwise_cons.1 h5
  refine ⟨h4 y (by simp), fun z z1 z2 => ?_⟩
  cases hz : kp lv z with
  | false => rfl
  | true =>
    have := hm z (by omega) hz
    rcases List.mem_append.1 this with q | q
    · have := h3 z q x (by simp); omega
    · rcases List.mem_cons.1 q with q | q
      · omega
      · rcases List.mem_cons.1 q with q | q
        · omega
        · have := h6 z q; omega
theorem split_at {α : Type} (l : List α) (j : Nat) (d : α) (h : j < l.length) : l = l.take j ++ l.getD j d :: l.drop (j + 1) := by
  have : l.getD j d = l[j] := by simp [List.getD, h]
  rw [this, List.getElem_cons_drop h, List.take_append_drop]
theorem split_at2 {α : Type} (l : List α) (j : Nat) (d : α) (h : j + 1 < l.length) : l = l.take j ++ l.getD j d :: l.getD (j + 1) d :: l.drop (j + 2) := by
  have h1 := split_at l j d (by omega)
  have h2 := split_at (l.drop (j + 1)) 0 d (by simp; omega)
  have h3 : (l.drop (j + 1)).getD 0 d = l.getD (j + 1) d := by simp [List.getD]
  rw [h3, List.take_zero, List.nil_append, List.drop_drop] at h2
  rw [show j + 1 + (0 + 1) = j + 2 from by omega] at h2
  rw [← h2]
  exact h1
/-- Runs as they are. -/
structure Runs (lv : List Int) (rs : List (List Nat)) : Prop where
  flat : rs.flatten = (List.range lv.length).filter (kp lv)
  pos : ∀ j, j < rs.length → 0 < (rn rs j).length
  kept : ∀ j m, j < rs.length → m < (rn rs j).length → (rn rs j).getD m 0 < lv.length ∧ kp lv ((rn rs j).getD m 0) = true ∧ lv.getD ((rn rs j).getD m 0) 0 = lv.getD (fst rs j) 0
  inner : ∀ j m, j < rs.length → m + 1 < (rn rs j).length → Adj lv ((rn rs j).getD m 0) ((rn rs j).getD (m + 1) 0)
  outer : ∀ j, j + 1 < rs.length → Adj lv (lst rs j) (fst rs (j + 1)) ∧ lv.getD (fst rs j) 0 ≠ lv.getD (fst rs (j + 1)) 0
  before : 0 < rs.length → ∀ z, z < fst rs 0 → kp lv z = false
  after : 0 < rs.length → ∀ z, lst rs (rs.length - 1) < z → z < lv.length → kp lv z = false
  cover : ∀ z, z < lv.length → kp lv z = true → ∃ j m, j < rs.length ∧ m < (rn rs j).length ∧ (rn rs j).getD m 0 = z
theorem rn_mem {rs : List (List Nat)} {j : Nat} (h : j < rs.length) : rn rs j ∈ rs := by
  unfold rn
  rw [show rs.getD j [] = rs[j] from by simp [List.getD, h]]
  exact List.getElem_mem h
theorem getD_mem {l : List Nat} {m : Nat} (h : m < l.length) : l.getD m 0 ∈ l := by
  rw [show l.getD m 0 = l[m] from by simp [List.getD, h]]
  exact List.getElem_mem h
theorem last_split {r : List Nat} (h : 0 < r.length) : r = r.take (r.length - 1) ++ [r.getD (r.length - 1) 0] := by
  have := split_at r (r.length - 1) 0 (by omega)
  rw [show r.length - 1 + 1 = r.length from by omega, List.drop_length] at this
  exact this
theorem runs_of (lv : List Int) : Runs lv (RS lv) := by
  have hI := RI.all lv lv.length
  unfold RS
  generalize (R lv lv.length).2 = rs at *
  generalize (R lv lv.length).1 = l at *
  have hpos : ∀ j, j < rs.length → 0 < (rn rs j).length := fun j hj => List.length_pos_iff.2 (hI.ne _ (rn_mem hj))
  have hsorted := keptSorted lv lv.length
  refine ⟨hI.flat, hpos, ?_, ?_, ?_, ?_, ?_, ?_⟩
  · intro j m hj hm
    have h1 : (rn rs j).getD m 0 ∈ (List.range lv.length).filter (kp lv) := by
      rw [← hI.flat]
      exact List.mem_flatten.2 ⟨_, rn_mem hj, getD_mem hm⟩
    have h2 := List.mem_filter.1 h1
    exact ⟨List.mem_range.1 h2.1, h2.2, hI.lev _ (rn_mem hj) _ (getD_mem hm)⟩
  · intro j m hj hm
    have h1 := split_at rs j [] hj
    have h2 := split_at2 (rn rs j) m 0 hm
    refine adj_of (n := lv.length) (A := (rs.take j).flatten ++ (rn rs j).take m) (B := (rn rs j).drop (m + 2) ++ (rs.drop (j + 1)).flatten) ?_
    rw [← hI.flat]
    conv => lhs; rw [h1]
    rw [List.flatten_append, List.flatten_cons]
    rw [show rs.getD j [] = rn rs j from rfl]
    conv => lhs; rw [h2]
    simp
  · intro j hj
    refine ⟨?_, hI.adj j hj⟩
    have h1 := split_at2 rs j [] hj
    have h2 := last_split (hpos j (by omega))
    have h3 := split_at (rn rs (j + 1)) 0 0 (hpos (j + 1) hj)
    refine adj_of (n := lv.length) (A := (rs.take j).flatten ++ (rn rs j).take ((rn rs j).length - 1)) (B := (rn rs (j + 1)).drop 1 ++ (rs.drop (j + 2)).flatten) ?_
    rw [← hI.flat]
    conv => lhs; rw [h1]
    rw [List.flatten_append, List.flatten_cons, List.flatten_cons]
    rw [show rs.getD j [] = rn rs j from rfl, show rs.getD (j + 1) [] = rn rs (j + 1) from rfl]
    conv => lhs; rw [h2, h3]
    simp [lst, fst]
  · intro h0 z hz
    cases hk : kp lv z with
    | false => rfl
    | true =>
      have h1 := split_at rs 0 [] h0
      have h3 := split_at (rn rs 0) 0 0 (hpos 0 h0)
      have hfl : (List.range lv.length).filter (kp lv) = fst rs 0 :: ((rn rs 0).drop 1 ++ (rs.drop 1).flatten) := by
        rw [← hI.flat]
        conv => lhs; rw [h1]
        rw [List.flatten_append, List.flatten_cons]
        rw [show rs.getD 0 [] = rn rs 0 from rfl]
        conv => lhs; rw [h3]
        simp [fst]
      have hlt : fst rs 0 < lv.length := by
        have : fst rs 0 ∈ (List.range lv.length).filter (kp lv) := by rw [hfl]; simp
        exact List.mem_range.1 (List.mem_filter.1 this).1
      have hm : z ∈ (List.range lv.length).filter (kp lv) := List.mem_filter.2 ⟨List.mem_range.2 (by omega), hk⟩
      rw [hfl] at hm hsorted
      rcases List.mem_cons.1 hm with q | q
      · omega
      · have := (List.pairwise_cons.1 hsorted).1 z q; omega
  · intro h0 z hz hz2
    cases hk : kp lv z with
    | false => rfl
    | true =>
      have h1 := split_at rs (rs.length - 1) [] (by omega)
      have h3 := last_split (hpos (rs.length - 1) (by omega))
      have hfl : (List.range lv.length).filter (kp lv) = ((rs.take (rs.length - 1)).flatten ++ (rn rs (rs.length - 1)).take ((rn rs (rs.length - 1)).length - 1)) ++ [lst rs (rs.length - 1)] := by
        rw [← hI.flat]
        conv => lhs; rw [h1]
        rw [List.flatten_append, List.flatten_cons, show rs.length - 1 + 1 = rs.length from by omega, List.drop_length]
        rw [show rs.getD (rs.length - 1) [] = rn rs (rs.length - 1) from rfl]
        conv => lhs; rw [h3]
        simp [lst]
      have hm : z ∈ (List.range lv.length).filter (kp lv) := List.mem_filter.2 ⟨List.mem_range.2 hz2, hk⟩
      rw [hfl] at hm hsorted
      rcases List.mem_append.1 hm with q | q
      · have := (List.pairwise_append.1 hsorted).2.2 z q (lst rs (rs.length - 1)) (by simp); omega
      · simp at q; omega
  · intro z hz hk
    have hm : z ∈ rs.flatten := by rw [hI.flat]; exact List.mem_filter.2 ⟨List.mem_range.2 hz, hk⟩
    obtain ⟨r, hr, hzr⟩ := List.mem_flatten.1 hm
    obtain ⟨j, hj, rfl⟩ := List.mem_iff_getElem.1 hr
    obtain ⟨m, hm2, rfl⟩ := List.mem_iff_getElem.1 hzr
    have e : rn rs j = rs[j] := by simp [rn, List.getD, hj]
    refine ⟨j, m, hj, by rw [e]; exact hm2, ?_⟩
    rw [e]
    simp [List.getD, hm2]
theorem RI.len_le {lv : List Int} {k : Nat} {l : Int} {rs : List (List Nat)} (h : RI lv k l rs) : rs.flatten.length ≤ k := by
  rw [h.flat]
  exact Nat.le_trans (List.length_filter_le _ _) (by simp)
theorem flat_len {rs : List (List Nat)} (h : ∀ r ∈ rs, r ≠ []) : rs.length ≤ rs.flatten.length := by
  induction rs with
  | nil => simp
  | cons r t ih =>
    have h1 := ih (fun q hq => h q (by simp [hq]))
    have h2 := List.length_pos_iff.2 (h r (by simp))
    rw [List.flatten_cons, List.length_append, List.length_cons]
    omega
theorem mem_len {rs : List (List Nat)} {r : List Nat} (h : r ∈ rs) : r.length ≤ rs.flatten.length := by
  induction rs with
  | nil => cases h
  | cons q t ih =>
    rw [List.flatten_cons, List.length_append]
    rcases List.mem_cons.1 h with rfl | h
    · omega
    · have := ih h; omega
theorem R_len (lv : List Int) (k : Nat) : (R lv k).2.length ≤ k := Nat.le_trans (flat_len (RI.all lv k).ne) (RI.all lv k).len_le
theorem R_row (lv : List Int) (k j : Nat) (hj : j < (R lv k).2.length) : (rn (R lv k).2 j).length ≤ k := Nat.le_trans (mem_len (rn_mem hj)) (RI.all lv k).len_le
end Go.Proofs.Ythohbiklnknofaa.Rn
