import Derived.Test.YtfadjgaledddjaaGreatDoorZa
import Derived.Test.YtfadjgaledddjaaGreatDoorZb
import Derived.Maps.AppendAt
import Derived.Test.YtfadjgaledddjaaGreatDoorZc
import Derived.Maps.OwnSet
import Derived.Maps.OwnOps
/- Level runs: plain mathematics. No Go in sight. -/
namespace Go.Proofs.YtfadjgaledddjaaGreatDoor.Rn
set_option linter.unusedVariables false
def zs (l : List Nat) : List Int := l.map fun (i : Nat) => (i : Int)
theorem zs_len (l : List Nat) : (zs l).length = l.length := by simp [zs]
theorem zs_append (a b : List Nat) : zs (a ++ b) = zs a ++ zs b := by simp [zs]
theorem zs_at (l : List Nat) (j : Nat) (h : j < l.length) : (zs l).getD j 0 = ((l.getD j 0 : Nat) : Int) := by
  simp [zs, List.getD, h]
/-- Is a place kept? -/
def kp (lv : List Int) (i : Nat) : Bool := decide (0 ≤ lv.getD i 0)
/-- A run; its first place, its last one. -/
def rn (rs : List (List Nat)) (j : Nat) : List Nat := rs.getD j []
def fst (rs : List (List Nat)) (j : Nat) : Nat := (rn rs j).getD 0 0
def lst (rs : List (List Nat)) (j : Nat) : Nat := (rn rs j).getD ((rn rs j).length - 1) 0
/-- One place more in the last run. -/
def grow (rs : List (List Nat)) (k : Nat) : List (List Nat) := rs.set (rs.length - 1) (rn rs (rs.length - 1) ++ [k])
theorem rn_snoc (a : List (List Nat)) (r : List Nat) : rn (a ++ [r]) a.length = r := by simp [rn, List.getD]
theorem rn_left (a b : List (List Nat)) (j : Nat) (h : j < a.length) : rn (a ++ b) j = rn a j := by simp [rn, List.getD, List.getElem?_append_left h]
theorem grow_snoc (a : List (List Nat)) (r : List Nat) (k : Nat) : grow (a ++ [r]) k = a ++ [r ++ [k]] := by
  unfold grow
  rw [List.length_append, List.length_singleton, Nat.add_sub_cancel, rn_snoc, List.set_append_right _ _ (Nat.le_refl _), Nat.sub_self]
  rfl
/-- The level of the last run, and the runs, behind k places. -/
def R (lv : List Int) : Nat → Int × List (List Nat)
  | 0 => (-1, [])
  | k + 1 => if lv.getD k 0 < 0 then R lv k else if lv.getD k 0 = (R lv k).1 then ((R lv k).1, grow (R lv k).2 k) else (lv.getD k 0, grow ((R lv k).2 ++ [[]]) k)
def RS (lv : List Int) : List (List Nat) := (R lv lv.length).2
theorem R_neg {lv : List Int} {k : Nat} (h : lv.getD k 0 < 0) : R lv (k + 1) = R lv k := by rw [R, if_pos h]
theorem R_same {lv : List Int} {k : Nat} (h : ¬ lv.getD k 0 < 0) (h1 : lv.getD k 0 = (R lv k).1) : R lv (k + 1) = ((R lv k).1, grow (R lv k).2 k) := by rw [R, if_neg h, if_pos h1]
theorem R_new {lv : List Int} {k : Nat} (h : ¬ lv.getD k 0 < 0) (h1 : ¬ lv.getD k 0 = (R lv k).1) : R lv (k + 1) = (lv.getD k 0, grow ((R lv k).2 ++ [[]]) k) := by rw [R, if_neg h, if_neg h1]
structure RI (lv : List Int) (k : Nat) (l : Int) (rs : List (List Nat)) : Prop where
  flat : rs.flatten = (List.range k).filter (kp lv)
  ne : ∀ r ∈ rs, r ≠ []
  lev : ∀ r ∈ rs, ∀ i ∈ r, lv.getD i 0 = lv.getD (r.getD 0 0) 0
  adj : ∀ j, j + 1 < rs.length → lv.getD (fst rs j) 0 ≠ lv.getD (fst rs (j + 1)) 0
  last : (rs = [] ∧ l = -1) ∨ (∃ a r, rs = a ++ [r] ∧ lv.getD (r.getD 0 0) 0 = l ∧ 0 ≤ l)
theorem head_snoc {r : List Nat} (h : r ≠ []) (k : Nat) : (r ++ [k]).getD 0 0 = r.getD 0 0 := by
  cases r with
  | nil => exact absurd rfl h
  | cons x t => simp [List.getD]
theorem fst_snoc (a : List (List Nat)) (r : List Nat) : fst (a ++ [r]) a.length = r.getD 0 0 := by unfold fst; rw [rn_snoc]
theorem fst_left (a b : List (List Nat)) (j : Nat) (h : j < a.length) : fst (a ++ b) j = fst a j := by unfold fst; rw [rn_left a b j h]
theorem RI.all (lv : List Int) : ∀ k, RI lv k (R lv k).1 (R lv k).2 := by
  intro k
  induction k with
  | zero => exact ⟨by simp [R], by simp [R], by simp [R], by simp [R], .inl ⟨rfl, rfl⟩⟩
  | succ k ih =>
    by_cases h0 : lv.getD k 0 < 0
    · rw [R_neg h0]
      refine ⟨?_, ih.ne, ih.lev, ih.adj, ih.last⟩
      have hk : kp lv k = false := by unfold kp; rw [decide_eq_false]; omega
      rw [List.range_succ, List.filter_append, ih.flat]
      simp [hk]
    · have hk : kp lv k = true := by unfold kp; rw [decide_eq_true_iff]; omega
      have hf : (List.range (k + 1)).filter (kp lv) = (R lv k).2.flatten ++ [k] := by
        rw [List.range_succ, List.filter_append, ih.flat]
        simp [hk]
      by_cases h1 : lv.getD k 0 = (R lv k).1
      · rw [R_same h0 h1]
        rcases ih.last with ⟨_, h2⟩ | ⟨a, r, h2, h3, h4⟩
        · omega
        · have hne : r ≠ [] := ih.ne r (by rw [h2]; simp)
          have hlv := ih.lev
          have hadj := ih.adj
          have hnn := ih.ne
          simp only
          rw [h2] at hf hlv hadj hnn ⊢
          rw [grow_snoc]
          refine ⟨?_, ?_, ?_, ?_, ?_⟩
          · rw [hf]; simp
          · intro q hq
            rcases List.mem_append.1 hq with hq | hq
            · exact hnn q (by simp [hq])
            · rw [List.mem_singleton.1 hq]; simp
          · intro q hq i hi
            rcases List.mem_append.1 hq with hq | hq
            · exact hlv q (by simp [hq]) i hi
            · rw [List.mem_singleton.1 hq] at hi ⊢
              rw [head_snoc hne]
              rcases List.mem_append.1 hi with hi | hi
              · exact hlv r (by simp) i hi
              · rw [List.mem_singleton.1 hi, h1, h3]
          · intro j hj
            have hj' : j + 1 < (a ++ [r]).length := by simpa using hj
            have := hadj j hj'
            have e : ∀ m, m < (a ++ [r]).length → fst (a ++ [r ++ [k]]) m = fst (a ++ [r]) m := by
              intro m hm
              by_cases hm2 : m < a.length
              · rw [fst_left _ _ _ hm2, fst_left _ _ _ hm2]
              · obtain rfl : m = a.length := by simp at hm; omega
                rw [fst_snoc, fst_snoc, head_snoc hne]
            rw [e j (by omega), e (j + 1) hj']
            exact this
          · exact .inr ⟨a, r ++ [k], rfl, by rw [head_snoc hne, h3], h4⟩
      · rw [R_new h0 h1]
        simp only
        rw [grow_snoc]
        refine ⟨?_, ?_, ?_, ?_, ?_⟩
        · rw [hf]; simp
        · intro q hq
          rcases List.mem_append.1 hq with hq | hq
          · exact ih.ne q hq
          · rw [List.mem_singleton.1 hq]; simp
        · intro q hq i hi
          rcases List.mem_append.1 hq with hq | hq
          · exact ih.lev q hq i hi
          · rw [List.mem_singleton.1 hq] at hi ⊢
            simp at hi
            subst hi
            simp
        · intro j hj
          rw [List.length_append, List.length_singleton] at hj
          by_cases hj2 : j + 1 < (R lv k).2.length
          · rw [fst_left _ _ _ (by omega), fst_left _ _ _ hj2]
            exact ih.adj j hj2
          · obtain hj3 : j + 1 = (R lv k).2.length := by omega
            rw [hj3, fst_snoc, fst_left _ _ _ (by omega)]
            rcases ih.last with ⟨h2, _⟩ | ⟨a, r, h2, h3, h4⟩
            · rw [h2] at hj3; simp at hj3
            · rw [h2] at hj3 ⊢
              obtain rfl : j = a.length := by simp at hj3; omega
              rw [fst_snoc, h3]
              simp
              exact fun h => h1 h.symm
        · exact .inr ⟨(R lv k).2, [k], by simp, by simp, by omega⟩
/-- Nothing is kept between two places. -/
def Adj (lv : List Int) (x y : Nat) : Prop := x < y ∧ ∀ z, x < z → z < y → kp lv z = false
theorem keptSorted (lv : List Int) (n : Nat) : ((List.range n).filter (kp lv)).Pairwise (· < ·) := List.Pairwise.filter _ List.pairwise_lt_range
theorem adj_of {lv : List Int} {n : Nat} {A B : List Nat} {x y : Nat} (h : (List.range n).filter (kp lv) = A ++ x :: y :: B) : Adj lv x y := by
  have hs := keptSorted lv n
  have hm : ∀ z, z < n → kp lv z = true → z ∈ (List.range n).filter (kp lv) := fun z h1 h2 => List.mem_filter.2 ⟨List.mem_range.2 h1, h2⟩
  have hy : y < n := List.mem_range.1 (List.mem_filter.1 (show y ∈ (List.range n).filter (kp lv) from by rw [h]; simp)).1
  rw [h] at hs hm
  obtain ⟨h1, h2, h3⟩ := List.pairwise_append.1 hs
  obtain ⟨h4, h5⟩ := List.pairwise_cons.1 h2
  obtain ⟨h6, h7⟩ := List.pairwise_cons.1 h5
  refine ⟨h4 y (by simp), fun z z1 z2 => ?_⟩
  cases hz : kp lv z with
  | false => rfl
  | true =>
    have := hm z (by omega) hz
    rcases List.mem_append.1 this with q | q
    · have := h3 z q x (by simp); omega
    · rcases List.mem_cons.1 q with q | q
      · omega
      · rcases List.mem_cons.1 q with q | q
        · omega
        · have := h6 z q; omega
theorem split_at {α : Type} (l : List α) (j : Nat) (d : α) (h : j < l.length) : l = l.take j ++ l.getD j d :: l.drop (j + 1) := by
  have : l.getD j d = l[j] := by simp [List.getD, h]
  rw [this, List.getElem_cons_drop h, List.take_append_drop]
theorem split_at2 {α : Type} (l : List α) (j : Nat) (d : α) (h : j + 1 < l.length) : l = l.take j ++ l.getD j d :: l.getD (j + 1) d :: l.drop (j + 2) := by
  have h1 := split_at l j d (by omega)
  have h2 := split_at (l.drop (j + 1)) 0 d (by simp; omega)
  have h3 : (l.drop (j + 1)).getD 0 d = l.getD (j + 1) d := by simp [List.getD]
  rw [h3, List.take_zero, List.nil_append, List.drop_drop] at h2
  rw [show j + 1 + (0 + 1) = j + 2 from by omega] at h2
  rw [← h2]
  exact h1
/-- Runs as they are. -/
structure Runs (lv : List Int) (rs : List (List Nat)) : Prop where
  flat : rs.flatten = (List.range lv.length).filter (kp lv)
  pos : ∀ j, j < rs.length → 0 < (rn rs j).length
  kept : ∀ j m, j < rs.length → m < (rn rs j).length → (rn rs j).getD m 0 < lv.length ∧ kp lv ((rn rs j).getD m 0) = true ∧ lv.getD ((rn rs j).getD m 0) 0 = lv.getD (fst rs j) 0
  inner : ∀ j m, j < rs.length → m + 1 < (rn rs j).length → Adj lv ((rn rs j).getD m 0) ((rn rs j).getD (m + 1) 0)
  outer : ∀ j, j + 1 < rs.length → Adj lv (lst rs j) (fst rs (j + 1)) ∧ lv.getD (fst rs j) 0 ≠ lv.getD (fst rs (j + 1)) 0
  before : 0 < rs.length → ∀ z, z < fst rs 0 → kp lv z = false
  after : 0 < rs.length → ∀ z, lst rs (rs.length - 1) < z → z < lv.length → kp lv z = false
  cover : ∀ z, z < lv.length → kp lv z = true → ∃ j m, j < rs.length ∧ m < (rn rs j).length ∧ (rn rs j).getD m 0 = z
theorem rn_mem {rs : List (List Nat)} {j : Nat} (h : j < rs.length) : rn rs j ∈ rs := by
  unfold rn
  rw [show rs.getD j [] = rs[j] from by simp [List.getD, h]]
  exact List.getElem_mem h
theorem getD_mem {l : List Nat} {m : Nat} (h : m < l.length) : l.getD m 0 ∈ l := by
  rw [show l.getD m 0 = l[m] from by simp [List.getD, h]]
  exact List.getElem_mem h
theorem last_split {r : List Nat} (h : 0 < r.length) : r = r.take (r.length - 1) ++ [r.getD (r.length - 1) 0] := by
  have := split_at r (r.length - 1) 0 (by omega)
  rw [show r.length - 1 + 1 = r.length from by omega, List.drop_length] at this
  exact this
theorem runs_of (lv : List Int) : Runs lv (RS lv) := by
  have hI := RI.all lv lv.length
  unfold RS
  generalize (R lv lv.length).2 = rs at *
  generalize (R lv lv.length).1 = l at *
  have hpos : ∀ j, j < rs.length → 0 < (rn rs j).length := fun j hj => List.length_pos_iff.2 (hI.ne _ (rn_mem hj))
  have hsorted := keptSorted lv lv.length
  refine ⟨hI.flat, hpos, ?_, ?_, ?_, ?_, ?_, ?_⟩
  · intro j m hj hm
    have h1 : (rn rs j).getD m 0 ∈ (List.range lv.length).filter (kp lv) := by
      rw [← hI.flat]
      exact List.mem_flatten.2 ⟨_, rn_mem hj, getD_mem hm⟩
    have h2 := List.mem_filter.1 h1
    exact ⟨List.mem_range.1 h2.1, h2.2, hI.lev _ (rn_mem hj) _ (getD_mem hm)⟩
  · intro j m hj hm
    have h1 := split_at rs j [] hj
    have h2 := split_at2 (rn rs j) m 0 hm
    refine adj_of (n := lv.length) (A := (rs.take j).flatten ++ (rn rs j).take m) (B := (rn rs j).drop (m + 2) ++ (rs.drop (j + 1)).flatten) ?_
    rw [← hI.flat]
    conv => lhs; rw [h1]
    rw [List.flatten_append, List.flatten_cons]
    rw [show rs.getD j [] = rn rs j from rfl]
    conv => lhs; rw [h2]
    simp
  · intro j hj
    refine ⟨?_, hI.adj j hj⟩
    have h1 := split_at2 rs j [] hj
    have h2 := last_split (hpos j (by omega))
    have h3 := split_at (rn rs (j + 1)) 0 0 (hpos (j + 1) hj)
    refine adj_of (n := lv.length) (A := (rs.take j).flatten ++ (rn rs j).take ((rn rs j).length - 1)) (B := (rn rs (j + 1)).drop 1 ++ (rs.drop (j + 2)).flatten) ?_
    rw [← hI.flat]
    conv => lhs; rw [h1]
    rw [List.flatten_append, List.flatten_cons, List.flatten_cons]
    rw [show rs.getD j [] = rn rs j from rfl, show rs.getD (j + 1) [] = rn rs (j + 1) from rfl]
    conv => lhs; rw [h2, h3]
    simp [lst, fst]
  · intro h0 z hz
    cases hk : kp lv z with
    | false => rfl
    | true =>
      have h1 := split_at rs 0 [] h0
      have h3 := split_at (rn rs 0) 0 0 (hpos 0 h0)
      have hfl : (List.range lv.length).filter (kp lv) = fst rs 0 :: ((rn rs 0).drop 1 ++ (rs.drop 1).flatten) := by
        rw [← hI.flat]
        conv => lhs; rw [h1]
        rw [List.flatten_append, List.flatten_cons]
        rw [show rs.getD 0 [] = rn rs 0 from rfl]
        conv => lhs; rw [h3]
        simp [fst]
      have hlt : fst rs 0 < lv.length := by
        have : fst rs 0 ∈ (List.range lv.length).filter (kp lv) := by rw [hfl]; simp
        exact List.mem_range.1 (List.mem_filter.1 this).1
      have hm : z ∈ (List.range lv.length).filter (kp lv) := List.mem_filter.2 ⟨List.mem_range.2 (by omega), hk⟩
      rw [hfl] at hm hsorted
      rcases List.mem_cons.1 hm with q | q
      · omega
      · have := (List.pairwise_cons.1 hsorted).1 z q; omega
  · intro h0 z hz hz2
    cases hk : kp lv z with
    | false => rfl
    | true =>
      have h1 := split_at rs (rs.length - 1) [] (by omega)
      have h3 := last_split (hpos (rs.length - 1) (by omega))
      have hfl : (List.range lv.length).filter (kp lv) = ((rs.take (rs.length - 1)).flatten ++ (rn rs (rs.length - 1)).take ((rn rs (rs.length - 1)).length - 1)) ++ [lst rs (rs.length - 1)] := by
        rw [← hI.flat]
        conv => lhs; rw [h1]
        rw [List.flatten_append, List.flatten_cons, show rs.length - 1 + 1 = rs.length from by omega, List.drop_length]
        rw [show rs.getD (rs.length - 1) [] = rn rs (rs.length - 1) from rfl]
        conv => lhs; rw [h3]
        simp [lst]
      have hm : z ∈ (List.range lv.length).filter (kp lv) := List.mem_filter.2 ⟨List.mem_range.2 hz2, hk⟩
      rw [hfl] at hm hsorted
      rcases List.mem_append.1 hm with q | q
      · have := (List.pairwise_append.1 hsorted).2.2 z q (lst rs (rs.length - 1)) (by simp); omega
      · simp at q; omega
  · intro z hz hk
    have hm : z ∈ rs.flatten := by rw [hI.flat]; exact List.mem_filter.2 ⟨List.mem_range.2 hz, hk⟩
    obtain ⟨r, hr, hzr⟩ := List.mem_flatten.1 hm
    obtain ⟨j, hj, rfl⟩ := List.mem_iff_getElem.1 hr
    obtain ⟨m, hm2, rfl⟩ := List.mem_iff_getElem.1 hzr
    have e : rn rs j = rs[j] := by simp [rn, List.getD, hj]
    refine ⟨j, m, hj, by rw [e]; exact hm2, ?_⟩
    rw [e]
    simp [List.getD, hm2]
theorem RI.len_le {lv : List Int} {k : Nat} {l : Int} {rs : List (List Nat)} (h : RI lv k l rs) : rs.flatten.length ≤ k := by
  rw [h.flat]
  exact Nat.le_trans (List.length_filter_le _ _) (by simp)
theorem flat_len {rs : List (List Nat)} (h : ∀ r ∈ rs, r ≠ []) : rs.length ≤ rs.flatten.length := by
  induction rs with
  | nil => simp
  | cons r t ih =>
    have h1 := ih (fun q hq => h q (by simp [hq]))
    have h2 := List.length_pos_iff.2 (h r (by simp))
    rw [List.flatten_cons, List.length_append, List.length_cons]
    omega
theorem mem_len {rs : List (List Nat)} {r : List Nat} (h : r ∈ rs) : r.length ≤ rs.flatten.length := by
  induction rs with
  | nil => cases h
  | cons q t ih =>
    rw [List.flatten_cons, List.length_append]
    rcases List.mem_cons.1 h with rfl | h
    · omega
    · have := ih h; omega
theorem R_len (lv : List Int) (k : Nat) : (R lv k).2.length ≤ k := Nat.le_trans (flat_len (RI.all lv k).ne) (RI.all lv k).len_le
theorem R_row (lv : List Int) (k j : Nat) (hj : j < (R lv k).2.length) : (rn (R lv k).2 j).length ≤ k := Nat.le_trans (mem_len (rn_mem hj)) (RI.all lv k).len_le
end Go.Proofs.YtfadjgaledddjaaGreatDoor.Rn

/- Lists of lists of places: in memory; Levels. -/
namespace Go.Proofs.YtfadjgaledddjaaGreatDoor
open Go.RowKit
set_option linter.unusedVariables false
set_option maxHeartbeats 1000000
set_option maxRecDepth 100000
theorem infoInts : (Tryz.prog.info? 24).map (fun i => (i.zero, i.size, i.bytes)) = some (some (.slice none 0 0), 1, 24) := by kernel_rfl
theorem own_types {w : World} {B B' e e' n m : Nat} {v u : Value} {xs ys : List Value} (h : w.ownsRow B e 1 v n xs) (h' : w.ownsRow B' e' 1 u m ys) (hne : ¬ e = e') (g : Nat) (h1 : v.ownBlock = some g) : ¬ u.ownBlock = some g := by
  intro h2
  rcases h.2 with ⟨rfl, _⟩ | ⟨a, cap, cur, rfl, _, ha, _⟩
  · simp [Value.ownBlock] at h1
  · rcases h'.2 with ⟨rfl, _⟩ | ⟨a', cap', cur', rfl, _, ha', _⟩
    · simp [Value.ownBlock] at h2
    · simp [Value.ownBlock] at h1 h2
      subst h1 h2
      rw [ha] at ha'
      simp at ha'
      exact hne ha'.2
theorem own_apart {w : World} {B B' e e' n m : Nat} {v u : Value} {xs ys : List Value} (h : w.ownsRow B e 1 v n xs) (h' : w.ownsRow B' e' 1 u m ys) (hne : ¬ e = e') : u.ownBlock = none ∨ u.ownBlock ≠ v.ownBlock := by
  cases hu : u.ownBlock with
  | none => exact .inl rfl
  | some g => exact .inr (fun h1 => own_types h h' hne g h1.symm hu)
/-- A list of lists that the call owns: each has memory of its own. -/
structure LO (B : Nat) (w : World) (v : Value) (vs : List Value) (rs : List (List Nat)) : Prop where
  oa : w.ownsRow B 24 1 v rs.length vs
  rows : ∀ j, j < rs.length → ∃ u, vs[j]? = some u ∧ w.ownsRow B 3 1 u (Rn.rn rs j).length ((Rn.zs (Rn.rn rs j)).map (Value.int .i64))
  ne : ∀ (i j : Nat) (u u' : Value) (g : Nat), vs[i]? = some u → vs[j]? = some u' → i ≠ j → u.ownBlock = some g → ¬ u'.ownBlock = some g
section
variable {B : Nat} {w : World} {v : Value} {vs : List Value} {rs : List (List Nat)}
theorem LO.len (h : LO B w v vs rs) : vs.length = rs.length := by have := h.oa.1; simpa using this
theorem LO.begin (B : Nat) (w : World) : LO B w (.slice none 0 0) [] [] := ⟨World.ownsRow_nil _ _ _ _, fun j hj => by simp at hj, fun i j u u' g h => by simp at h⟩
theorem LO.below (h : LO B w v vs rs) {w' : World} (hb : Below w.heap.size w w') : LO B w' v vs rs :=
  ⟨owns_below h.oa hb, fun j hj => by obtain ⟨u, h1, h2⟩ := h.rows j hj; exact ⟨u, h1, owns_below h2 hb⟩, h.ne⟩
/-- A nil list more. -/
theorem LO.more (h : LO B w v vs rs) {w' : World} {v' : Value} (ho : w'.ownsRow B 24 1 v' (rs.length + 1) (vs ++ [.slice none 0 0])) (hg : w.grownBy w' v.ownBlock) : LO B w' v' (vs ++ [.slice none 0 0]) (rs ++ [[]]) := by
  have hl := h.len
  refine ⟨by simpa using ho, ?_, ?_⟩
  · intro j hj
    by_cases hj2 : j < rs.length
    · obtain ⟨u, h1, h2⟩ := h.rows j hj2
      refine ⟨u, by rw [List.getElem?_append_left (by omega)]; exact h1, ?_⟩
      rw [Rn.rn_left _ _ _ hj2]
      exact h2.kept hg (own_apart h.oa h2 (by decide))
    · obtain rfl : j = rs.length := by simp at hj; omega
      refine ⟨.slice none 0 0, by rw [← hl]; simp, ?_⟩
      rw [Rn.rn_snoc]
      exact World.ownsRow_nil _ _ _ _
  · intro i j u u' g h1 h2 hij h3
    by_cases hi : i < vs.length
    · rw [List.getElem?_append_left hi] at h1
      by_cases hj : j < vs.length
      · rw [List.getElem?_append_left hj] at h2
        exact h.ne i j u u' g h1 h2 hij h3
      · rw [List.getElem?_append_right (by omega)] at h2
        have : u' = .slice none 0 0 := by
          cases hq : j - vs.length with
          | zero => rw [hq] at h2; simpa using h2.symm
          | succ q => rw [hq] at h2; simp at h2
        subst this
        simp [Value.ownBlock]
    · rw [List.getElem?_append_right (by omega)] at h1
      have : u = .slice none 0 0 := by
        cases hq : i - vs.length with
        | zero => rw [hq] at h1; simpa using h1.symm
        | succ q => rw [hq] at h1; simp at h1
      subst this
      simp [Value.ownBlock] at h3
/-- A place more in the last list. -/
theorem LO.push {g N cap k : Nat} {u u' : Value} {w' : World} (h : LO B w (.slice (some ⟨g, 0, none⟩) (N + 1) cap) vs rs) (hN : rs.length = N + 1) (hu : vs[N]? = some u)
    (ho : w'.ownsRow B 3 1 u' ((Rn.rn rs N).length + 1) ((Rn.zs (Rn.rn rs N)).map (Value.int .i64) ++ [.int .i64 (k : Int)])) (hg : w.grownBy w' u.ownBlock) (hloc : u'.ownBlock = u.ownBlock ∨ u'.ownBlock = some w.heap.size) :
    LO B (w'.setCell ⟨g, N, none⟩ u') (.slice (some ⟨g, 0, none⟩) (N + 1) cap) (vs.set N u') (Rn.grow rs k) := by
  have hl := h.len
  obtain ⟨u0, hu0, hou⟩ := h.rows N (by omega)
  rw [hu] at hu0
  simp at hu0
  subst hu0
  have hoa := h.oa
  rw [hN] at hoa
  have hoa' := hoa.kept hg (own_apart hou hoa (by decide))
  have hset := (hoa'.stored N u').1
  have hgl : (Rn.grow rs k).length = N + 1 := by simp [Rn.grow, hN]
  have hrnN : Rn.rn (Rn.grow rs k) N = Rn.rn rs N ++ [k] := by simp [Rn.grow, hN, Rn.rn, List.getD]
  have hrno : ∀ j, ¬ j = N → Rn.rn (Rn.grow rs k) j = Rn.rn rs j := fun j hj => by
    unfold Rn.grow
    rw [hN, Nat.add_sub_cancel]
    simp [Rn.rn, List.getD, show ¬ N = j from fun q => hj q.symm]
  refine ⟨by rw [hgl]; exact hset, ?_, ?_⟩
  · intro j hj
    rw [hgl] at hj
    by_cases hjN : j = N
    · subst hjN
      refine ⟨u', by rw [List.getElem?_set_self (by omega)], ?_⟩
      rw [hrnN]
      have e : ((Rn.zs (Rn.rn rs j ++ [k])).map (Value.int .i64)) = (Rn.zs (Rn.rn rs j)).map (Value.int .i64) ++ [.int .i64 (k : Int)] := by simp [Rn.zs]
      rw [e, List.length_append, List.length_singleton]
      exact ownsRow_setCell_other ho (fun h1 => own_types hoa' ho (by decide) g rfl h1) u'
    · obtain ⟨x, hx1, hx2⟩ := h.rows j (by omega)
      refine ⟨x, by rw [List.getElem?_set_ne (fun q => hjN q.symm)]; exact hx1, ?_⟩
      rw [hrno j hjN]
      have hk : w'.ownsRow B 3 1 x (Rn.rn rs j).length ((Rn.zs (Rn.rn rs j)).map (Value.int .i64)) := by
        refine hx2.kept hg ?_
        cases hxb : x.ownBlock with
        | none => exact .inl rfl
        | some q => exact .inr (fun h1 => h.ne N j u x q hu hx1 (fun e => hjN e.symm) h1.symm hxb)
      exact ownsRow_setCell_other hk (fun h1 => own_types hoa' hk (by decide) g rfl h1) u'
  · intro i j x y q hx hy hij hxq hyq
    have key : ∀ i x, ¬ i = N → (vs.set N u')[i]? = some x → ∀ q, x.ownBlock = some q → ¬ u'.ownBlock = some q := by
      intro i x hi hx q hxq huq
      rw [List.getElem?_set_ne (fun e => hi e.symm)] at hx
      rcases hloc with e | e
      · rw [e] at huq; exact h.ne i N x u q hx hu hi hxq huq
      · rw [e] at huq
        have hi2 : i < rs.length := by rw [← hl]; exact (List.getElem?_eq_some_iff.1 hx).1
        obtain ⟨x', hx', hox⟩ := h.rows i hi2
        rw [hx] at hx'
        simp at hx' huq
        subst hx'
        have := (hox.lt q hxq).2
        omega
    by_cases hi : i = N
    · subst hi
      rw [List.getElem?_set_self (by omega)] at hx
      simp at hx
      subst hx
      exact key j y (fun e => hij e.symm) hy q hyq hxq
    · by_cases hj : j = N
      · subst hj
        rw [List.getElem?_set_self (by omega)] at hy
        simp at hy
        subst hy
        exact key i x hi hx q hxq hyq
      · rw [List.getElem?_set_ne (fun e => hi e.symm)] at hx
        rw [List.getElem?_set_ne (fun e => hj e.symm)] at hy
        exact h.ne i j x y q hx hy hij hxq hyq
end
theorem LO.cellAfter {B : Nat} {w : World} {vs : List Value} {rs : List (List Nat)} {g N cap : Nat} {u : Value} {w' : World} (h : LO B w (.slice (some ⟨g, 0, none⟩) (N + 1) cap) vs rs) (hN : rs.length = N + 1) (hu : vs[N]? = some u) (hg : w.grownBy w' u.ownBlock) : w'.cell? ⟨g, N, none⟩ = some u ∧ w'.frozen? ⟨g, N, none⟩ = false := by
  obtain ⟨u0, hu0, hou⟩ := h.rows N (by omega)
  rw [hu] at hu0
  simp at hu0
  subst hu0
  have hoa := h.oa
  rw [hN] at hoa
  have hl := h.len
  have hoa' := hoa.kept hg (own_apart hou hoa (by decide))
  exact ⟨by rw [hoa'.cellAt N (by omega)]; exact hu, hoa'.frozenAt N⟩
theorem grown_alloc {B : Nat} {w w1 w2 : World} {o : Obj} {row : Option Nat} (h : Below B w w1) (hs : B ≤ w1.heap.size) (hg : (w1.alloc o).grownBy w2 row) (hr : ∀ g, row = some g → B ≤ g) : Below B w w2 := (h.alloc hs o).grown hg (by simp; omega) hr
/-- What Levels keeps. -/
structure LP (w : World) (lv : List Int) (k : Nat) (v : Value) (wr : World) : Prop where
  lo : ∃ vs, LO w.heap.size wr v vs (Rn.R lv k).2
  bel : Below w.heap.size w wr
theorem LP.neg {w : World} {lv : List Int} {k : Nat} {v : Value} {wr : World} (h : LP w lv k v wr) (h0 : lv.getD k 0 < 0) : LP w lv (k + 1) v wr := by
  refine ⟨?_, h.bel⟩
  rw [Rn.R_neg h0]
  exact h.lo
theorem levels_any (ao : Option Addr) (n cap : Nat) (lv : List Int) (w : World) (h : Row .i64 w ao n cap lv) (hn : n * 24 ≤ 140737488351232) :
    Calls Tryz.prog 62 #[.slice ao n cap] w fun e w' => ∃ v, e = .returned v ∧ (∃ vs, LO w.heap.size w' v vs (Rn.RS lv)) ∧ Below w.heap.size w w' := by
  obtain ⟨ii, hii, hy0, hy1, hy2⟩ := info_parts infoInt
  have HII : Hid (Tryz.prog.info? 3 = some ii) := hii
  have HY0 := hide hy0
  have HY1 := hide hy1
  have HY2 := hide hy2
  obtain ⟨jj, hjj, hz0, hz1, hz2⟩ := info_parts infoInts
  have HJJ : Hid (Tryz.prog.info? 24 = some jj) := hjj
  have HZ0 := hide hz0
  have HZ1 := hide hz1
  have HZ2 := hide hz2
  have H := hide h
  have HL := hide h.len
  have HN := hide hn
  have hn2 : n ≤ 5864062014634 := by omega
  clear h hn hii hy0 hy1 hy2 hjj hz0 hz1 hz2
  go_enter Tryz.func62, Tryz.ntmps62
  go_wp2
  go_loopw [3, 4, 9] (fun v l i wr => ∃ k : Nat, k ≤ n ∧ i = .int .i64 (k : Int) ∧ l = .int .i64 (Rn.R lv k).1 ∧ Hid (LP w lv k v wr)) (fun _ _ i _ => n - (intOf i).toNat)
  case atStart => exact ⟨0, Nat.zero_le _, rfl, rfl, ⟨⟨[], LO.begin _ _⟩, Below.refl _ _⟩⟩
  case round =>
    obtain ⟨k, hk, rfl, rfl, hm⟩ := hrel
    by_cases hlt : k < n
    · have hkl : k < lv.length := by rw [HL.out]; exact hlt
      obtain ⟨b, off, rfl, hbl, hc⟩ := H.out.cells (by omega)
      have ck : wr.cell? ⟨b, off + k, none⟩ = some (.int .i64 (lv.getD k 0)) := (hm.out.bel.cell (by exact hbl)).trans (hc k hkl)
      have hin : (k : Int) < (n : Int) := by omega
      have hsz : w.heap.size ≤ wr.heap.size := hm.out.bel.size
      have hbl2 : b < w.heap.size := hbl
      obtain ⟨vs, hlo⟩ := hm.out.lo
      clear hc
      by_cases h0 : lv.getD k 0 < 0
      · have HM := hide (hm.out.neg h0)
        have hR := Rn.R_neg h0
        obtain ⟨a4, c4, rfl, _⟩ := owns_form hlo.oa
        have h1 : (Rn.R lv (k + 1)).1 = (Rn.R lv k).1 := by rw [hR]
        rw [← h1]
        generalize (Rn.R lv k).2.length = N at *
        generalize lv.getD k 0 = x at *
        clear hm hlo hR h1 hkl
        go_wp2
        go_roundw
        case rel => exact ⟨k + 1, by omega, by go_num, rfl, HM⟩
        case measure => simp [intOf]; omega
      · have hRI := Rn.RI.all lv k
        have hlen := Rn.R_len lv k
        by_cases h1 : lv.getD k 0 = (Rn.R lv k).1
        · have hR := Rn.R_same h0 h1
          rcases hRI.last with ⟨_, q1⟩ | ⟨a, r, q1, q2, q3⟩
          · omega
          obtain ⟨N, hNN⟩ : ∃ N, (Rn.R lv k).2.length = N + 1 := ⟨a.length, by rw [q1]; simp⟩
          obtain ⟨g, cp, e4, hgB, hle4⟩ := owns_pos hlo.oa (by omega)
          rw [hNN] at e4 hle4
          subst e4
          obtain ⟨u, hu, hou⟩ := hlo.rows N (by omega)
          have hoa := hlo.oa
          rw [hNN] at hoa
          have hpos : 0 < (Rn.rn (Rn.R lv k).2 N).length := List.length_pos_iff.2 (hRI.ne _ (Rn.rn_mem (by omega)))
          have hrow := Rn.R_row lv k N (by omega)
          have cg : wr.cell? ⟨g, N, none⟩ = some u := by rw [hoa.cellAt N (by have := hlo.len; omega)]; exact hu
          have HAF := hide (fun (o : Obj) (w' : World) (hg : (wr.alloc o).grownBy w' u.ownBlock) => (hlo.below ((Below.refl _ _).alloc (Nat.le_refl _) o)).cellAfter hNN hu hg)
          have HPU := hide (fun (o : Obj) (u' : Value) (w' : World) ho (hg : (wr.alloc o).grownBy w' u.ownBlock) hloc => (hlo.below ((Below.refl _ _).alloc (Nat.le_refl _) o)).push (k := k) hNN hu (u' := u') ho hg hloc)
          have HBL := hide hm.out.bel
          have HOU := hide hou
          have HRE := hide (show Rn.R lv (k + 1) = _ from hR)
          obtain ⟨gu, cu, rfl, hguB, hle5⟩ := owns_pos hou hpos
          generalize (Rn.rn (Rn.R lv k).2 N).length = m at *
          generalize hxs : (Rn.zs (Rn.rn (Rn.R lv k).2 N)).map (Value.int .i64) = xs at *
          have HX := hide hxs
          have h1' : lv.getD k 0 = (Rn.R lv k).1 := h1
          have hl1 : (Rn.R lv (k + 1)).1 = (Rn.R lv k).1 := by rw [hR]
          rw [← h1] at hl1 ⊢
          rw [← hl1]
          have hx0 : ¬ lv.getD k 0 < 0 := h0
          rw [← hl1] at hx0 ck
          generalize hxx : (Rn.R lv (k + 1)).1 = x at *
          have HXX := hide hxx
          clear hxx
          have em : ((N + 1 : Nat) : Int) - 1 = (N : Int) := by omega
          have hNn : N ≤ 5864062014633 := by omega
          clear hm hlo hR hl1 h1 h1' hRI q1 q2 q3 hoa hou hu hkl hxs h0
          go_wp2_with (at_builtin; refine wpList_append_own_at _ rfl (.tmp 32) (.tmp 34) 24 rfl w.heap.size 3 ii (.int .i64 0) 1 8 Tryz.underlying24 HII.out HY0.out HY1.out HY2.out rfl (by decide) (.slice (some ⟨gu, 0, none⟩) m cu) m xs rfl (HOU.out.alloc _) ⟨wr.heap.size, 0, none⟩ 1 1 [.int .i64 (k : Int)] rfl rfl (cell_one_new _ _ _) (ints_oneCell .i64 [(k : Int)]) (by unfold maxLen; omega) (by omega) (by simp; omega) ?_; intro u' w2 ho2 hg2 _ hloc2; obtain ⟨cA, fA⟩ := HAF.out _ _ hg2; obtain ⟨g2, c2, rfl, _, _⟩ := owns_pos ho2 (by omega))
          go_roundw
          case rel =>
            refine ⟨k + 1, by omega, by go_num, by rw [HXX.out], hide ⟨⟨vs.set N (.slice (some ⟨g2, 0, none⟩) (m + 1) c2), ?_⟩, ?_⟩⟩
            · rw [HRE.out]
              exact HPU.out _ _ _ ho2 hg2 (by simpa using hloc2)
            · exact (grown_alloc HBL.out hsz hg2 (fun q hq => by simp [Value.ownBlock] at hq; omega)).setCell (p := ⟨g, N, none⟩) hgB _
          case measure => simp [intOf]; omega
        · have hR := Rn.R_new h0 h1
          obtain ⟨a4, c4, rfl, _⟩ := owns_form hlo.oa
          obtain ⟨rs, hrs⟩ : ∃ rs, (Rn.R lv k).2 = rs := ⟨_, rfl⟩
          have HRE := hide (show Rn.R lv (k + 1) = (lv.getD k 0, Rn.grow (rs ++ [[]]) k) from by rw [hR, hrs])
          rw [hrs] at hlo hlen
          obtain ⟨N, hNN⟩ : ∃ N, (Rn.R lv k).2.length = N := ⟨_, rfl⟩
          have hNr : rs.length = N := by rw [← hrs]; exact hNN
          rw [hNN]
          rw [hNr] at hlen
          have HLO := hide hlo
          have hoa := hlo.oa
          rw [hNr] at hoa
          have HOA := hide hoa
          rw [hNr] at hlo
          have HMO := hide (fun (o : Obj) (v' : Value) (w' : World) ho (hg : (wr.alloc o).grownBy w' (Value.slice a4 N c4).ownBlock) => (hlo.below ((Below.refl _ _).alloc (Nat.le_refl _) o)).more (v' := v') ho hg)
          have HBL := hide hm.out.bel
          have hl1 : (Rn.R lv (k + 1)).1 = lv.getD k 0 := by rw [hR]
          generalize (Rn.R lv k).1 = l at *
          have HL1 := hide hl1
          generalize lv.getD k 0 = x at *
          have hne : (x != l) = true := bne_iff_ne.2 h1
          have em : ((N + 1 : Nat) : Int) - 1 = (N : Int) := by omega
          have hNn : N ≤ 5864062014633 := by omega
          have HNR := hide hNr
          have hvl := hlo.len
          rw [hNr] at hvl
          have HVL := hide hvl
          clear hm hlo hR hl1 hRI hoa hkl hvl hNr hNN hrs
          go_wp2_with (first
            | (at_builtin; refine wpList_append_own_at _ rfl (.tmp 19) (.tmp 20) 106 rfl w.heap.size 24 jj (.slice none 0 0) 1 24 Tryz.underlying106 HJJ.out HZ0.out HZ1.out HZ2.out rfl (by decide) (.slice a4 N c4) N vs rfl (HOA.out.alloc _) ⟨wr.heap.size, 0, none⟩ 1 1 [.slice none 0 0] rfl rfl (cell_one_new _ _ _) (by simp [Value.oneCell']) (by unfold maxLen; omega) (by omega) (by simp; omega) ?_; intro v1 w1 ho1 hg1 _ _; have hlo1 := HMO.out _ _ _ (by rw [HNR.out]; exact ho1) hg1; have hb1 := grown_alloc HBL.out hsz hg1 (fun q hq => (HOA.out.lt q hq).1); have hsz1 := hb1.size; obtain ⟨g1, c1, rfl, hgB, _⟩ := owns_pos ho1 (by omega); have cg : w1.cell? ⟨g1, N, none⟩ = some (.slice none 0 0) := by (rw [ho1.cellAt N (by simp), List.getElem?_append_right (by rw [HVL.out]; exact Nat.le_refl _), HVL.out, Nat.sub_self]; rfl))
            | (at_builtin; refine wpList_append_own_at _ rfl (.tmp 32) (.tmp 34) 24 rfl w.heap.size 3 ii (.int .i64 0) 1 8 Tryz.underlying24 HII.out HY0.out HY1.out HY2.out rfl (by decide) (.slice none 0 0) 0 [] rfl (World.ownsRow_nil _ _ _ _) ⟨w1.heap.size, 0, none⟩ 1 1 [.int .i64 (k : Int)] rfl rfl (cell_one_new _ _ _) (ints_oneCell .i64 [(k : Int)]) (by unfold maxLen; omega) (by omega) (by simp; omega) ?_; intro u' w2 ho2 hg2 _ hloc2; obtain ⟨cA, fA⟩ := (hlo1.below ((Below.refl _ _).alloc (Nat.le_refl _) _)).cellAfter (by simp [HNR.out]) (show (vs ++ [Value.slice none 0 0])[N]? = some (.slice none 0 0) from by rw [← HVL.out]; simp) hg2; obtain ⟨g2, c2, rfl, _, _⟩ := owns_pos ho2 (by omega)))
          go_roundw
          case rel =>
            refine ⟨k + 1, by omega, by go_num, by rw [HL1.out], hide ⟨⟨(vs ++ [Value.slice none 0 0]).set N (Value.slice (some ⟨g2, 0, none⟩) 1 c2), ?_⟩, ?_⟩⟩
            · rw [HRE.out]
              have hrn : Rn.rn (rs ++ [[]]) N = [] := by rw [← HNR.out]; exact Rn.rn_snoc _ _
              refine (hlo1.below ((Below.refl _ _).alloc (Nat.le_refl _) _)).push (k := k) (u := .slice none 0 0) (by simp [HNR.out]) (by rw [← HVL.out]; simp) ?_ hg2 (by simpa using hloc2)
              rw [hrn]
              exact ho2
            · exact (grown_alloc hb1 hsz1 hg2 (fun q hq => by simp [Value.ownBlock] at hq)).setCell (p := ⟨g1, N, none⟩) hgB _
          case measure => simp [intOf]; omega
    · obtain rfl : k = n := by omega
      have hne : ¬ ((k : Int) < (k : Int)) := by omega
      obtain ⟨vs, hlo⟩ := hm.out.lo
      have hb := hm.out.bel
      obtain ⟨a4, c4, rfl, _⟩ := owns_form hlo.oa
      have HLO := hide (show ∃ vs, LO w.heap.size wr (.slice a4 (Rn.R lv k).2.length c4) vs (Rn.RS lv) from ⟨vs, by unfold Rn.RS; rw [HL.out]; exact hlo⟩)
      generalize (Rn.R lv k).2.length = N at *
      generalize (Rn.R lv k).1 = l at *
      clear hm hlo hlt
      go_wp2
      go_ret
      exact ⟨_, rfl, HLO.out, hb⟩
end Go.Proofs.YtfadjgaledddjaaGreatDoor

/- The paragraph that sequences are told by: its parts in memory; begins, last, level, ahead, behind, side; firsts. -/
namespace Go.Proofs.YtfadjgaledddjaaGreatDoor
open Go.RowKit Go.Maps
set_option linter.unusedVariables false
set_option maxHeartbeats 1000000
set_option maxRecDepth 100000
/-- A list of lists as it is read. -/
structure LL (w : World) (ao : Option Addr) (N cap : Nat) (rs : List (List Nat)) : Prop where
  len : rs.length = N
  le : N ≤ cap
  at' : ∀ j, j < N → ∃ g gj cj, ao = some ⟨g, 0, none⟩ ∧ g < w.heap.size ∧ w.cell? ⟨g, j, none⟩ = some (.slice (some ⟨gj, 0, none⟩) (Rn.rn rs j).length cj) ∧ Row .i64 w (some ⟨gj, 0, none⟩) (Rn.rn rs j).length cj (Rn.zs (Rn.rn rs j))
theorem LL.below {w : World} {ao : Option Addr} {N cap : Nat} {rs : List (List Nat)} (h : LL w ao N cap rs) {w' : World} (hb : Below w.heap.size w w') : LL w' ao N cap rs :=
  ⟨h.len, h.le, fun j hj => by
    obtain ⟨g, gj, cj, h1, h2, h3, h4⟩ := h.at' j hj
    exact ⟨g, gj, cj, h1, Nat.lt_of_lt_of_le h2 hb.size, (hb.cell (by exact h2)).trans h3, h4.below hb⟩⟩
theorem LO.view {B : Nat} {w : World} {v : Value} {vs : List Value} {rs : List (List Nat)} (h : LO B w v vs rs) (hp : ∀ j, j < rs.length → 0 < (Rn.rn rs j).length) : ∃ ao cap, v = .slice ao rs.length cap ∧ LL w ao rs.length cap rs := by
  have hl := h.len
  obtain ⟨ao, cap, rfl, hle⟩ := owns_form h.oa
  refine ⟨ao, cap, rfl, rfl, hle, fun j hj => ?_⟩
  obtain ⟨g, c2, e, _, _⟩ := owns_pos h.oa (by omega)
  simp only [Value.slice.injEq] at e
  obtain ⟨rfl, _, rfl⟩ := e
  obtain ⟨u, hu, hou⟩ := h.rows j hj
  obtain ⟨gu, cu, rfl, _, _⟩ := owns_pos hou (hp j hj)
  exact ⟨g, gu, cu, rfl, (h.oa.lt g rfl).2, by rw [h.oa.cellAt j (by omega)]; exact hu, row_owned hou⟩
namespace Rn
/-- The number of the run that begins at a place, among the first k. -/
def fi (rs : List (List Nat)) (k : Nat) (z : Int) : Option Nat := (List.range k).find? fun i => (fst rs i : Int) == z
theorem fi_succ (rs : List (List Nat)) (k : Nat) (z : Int) : fi rs (k + 1) z = (fi rs k z).or (if (fst rs k : Int) == z then some k else none) := by
  unfold fi
  rw [List.range_succ, List.find?_append]
  congr 1
  simp only [List.find?_cons, List.find?_nil]
  cases ((fst rs k : Int) == z) <;> rfl
theorem fi_some {rs : List (List Nat)} {k j : Nat} {z : Int} (h : fi rs k z = some j) : j < k ∧ (fst rs j : Int) = z := by
  unfold fi at h
  have h1 := List.find?_some h
  have h2 := List.mem_of_find?_eq_some h
  exact ⟨List.mem_range.1 h2, by simpa using h1⟩
theorem fi_none {rs : List (List Nat)} {k : Nat} {z : Int} (h : fi rs k z = none) (j : Nat) (hj : j < k) : ¬ (fst rs j : Int) = z := by
  unfold fi at h
  have := List.find?_eq_none.1 h j (List.mem_range.2 hj)
  simpa using this
def oi : Option Nat → Int
  | none => -1
  | some j => (j : Int)
/-- The level of a run; does it end with an initiator; the run that follows. -/
def lvl (lv : List Int) (rs : List (List Nat)) (k : Nat) : Int := lv.getD (fst rs k) 0
def en (mt : List Int) (rs : List (List Nat)) (k : Nat) : Bool := decide ((lst rs k : Int) < mt.getD (lst rs k) 0)
def fo (mt : List Int) (rs : List (List Nat)) (k : Nat) : Option Nat := if en mt rs k then fi rs rs.length (mt.getD (lst rs k) 0) else none
def bg (mt : List Int) (rs : List (List Nat)) (k : Nat) : Bool := decide (mt.getD (fst rs k) 0 < 0) || decide ((fst rs k : Int) ≤ mt.getD (fst rs k) 0)
def ah (b : Int) (lv : List Int) (rs : List (List Nat)) (k : Nat) : Int := if k = 0 then b else lvl lv rs (k - 1)
def bh (b : Int) (lv mt : List Int) (rs : List (List Nat)) (k : Nat) : Int := if k = rs.length - 1 then b else if en mt rs k then b else lvl lv rs (k + 1)
def sd (a b : Int) : Int := if (max a b).tmod 2 = 1 then 2 else 1
end Rn
/-- What the map of first places holds. -/
def MD (rs : List (List Nat)) (k : Nat) (D : DataW Unit) : Prop := IsMap D ∧ ∀ z : Int, Maps.has D (.int .i64 z) = (Rn.fi rs k z).isSome ∧ ∀ zd, D.atKey (.int .i64 z) zd = match Rn.fi rs k z with | some j => .lit (.int .i64 (j : Int)) | none => zd
theorem MD.nil (rs : List (List Nat)) : MD rs 0 (.map []) := ⟨isMap_empty, fun z => ⟨rfl, fun zd => rfl⟩⟩
theorem MD.step {rs : List (List Nat)} {k : Nat} {D : DataW Unit} (h : MD rs k D) (hd : ∀ j, j < k → ¬ Rn.fst rs j = Rn.fst rs k) : MD rs (k + 1) (D.put (.int .i64 (Rn.fst rs k : Int)) (.lit (.int .i64 (k : Int)))) := by
  refine ⟨h.1.put _ _, fun z => ?_⟩
  rw [Rn.fi_succ]
  by_cases hz : (Rn.fst rs k : Int) = z
  · subst hz
    have hn : Rn.fi rs k (Rn.fst rs k : Int) = none := by
      cases hf : Rn.fi rs k (Rn.fst rs k : Int) with
      | none => rfl
      | some j =>
        obtain ⟨h1, h2⟩ := Rn.fi_some hf
        exact absurd (by omega) (hd j h1)
    rw [hn]
    simp only [BEq.rfl, if_true, Option.none_or]
    have ht : WideAt.IsKeyLit (Lit.int .i64 (Rn.fst rs k : Int)) := trivial
    exact ⟨has_put_same h.1 ht _, fun zd => atKey_put_same h.1 ht _ _⟩
  · have hne : (Lit.int .i64 z) ≠ (.int .i64 (Rn.fst rs k : Int)) := fun e => hz (by simpa using e.symm)
    have hb : ((Rn.fst rs k : Int) == z) = false := beq_false_of_ne hz
    rw [hb]
    simp only [Bool.false_eq_true, if_false, Option.or_none]
    obtain ⟨h1, h2⟩ := h.2 z
    exact ⟨(has_put_other hne _).trans h1, fun zd => (atKey_put_other hne _ _).trans (h2 zd)⟩
theorem lawInt : Keyed Tryz.prog 3 := int_keyed Tryz.underlying3
theorem zeroInt (w : World) : (zeroValue 3).run Tryz.prog w = .ok (.int .i64 0) w := by kernel_rfl
/-- The map is asked. -/
theorem MD.look {rs : List (List Nat)} {k : Nat} {D : DataW Unit} (h : MD rs k D) {w : World} {mp n : Nat} (ho : w.ownsMap Tryz.prog 3 (plainElem Tryz.prog 3) mp n D) (z : Int) (hz : (Lit.int .i64 z).wf = true) :
    (Instr.lookup 108 (.map (some mp)) (.int .i64 z) true).run Tryz.prog w = .ok (.tuple #[.int .i64 (((Rn.fi rs k z).getD 0 : Nat) : Int), .bool (Rn.fi rs k z).isSome]) w := by
  obtain ⟨v, ps, h1, h2⟩ := ho.look_ok lawInt Tryz.underlying108 (zeroInt w) (plainElem_int (H := Unit) Tryz.underlying3 (q := .i64) (a := 0) (by decide)) (keyOf_int_mk Tryz.underlying3 hz)
  obtain ⟨c, rfl, h3, _⟩ := plainElem_int_inv Tryz.underlying3 h2
  obtain ⟨g1, g2⟩ := h.2 z
  rw [h1, g1]
  rw [g2] at h3
  cases hf : Rn.fi rs k z with
  | none =>
    rw [hf] at h3
    simp only [Prod.mk.injEq] at h3
    obtain ⟨h3, _⟩ := h3
    simp at h3
    subst h3
    rfl
  | some j =>
    rw [hf] at h3
    simp only [Prod.mk.injEq] at h3
    obtain ⟨h3, _⟩ := h3
    simp at h3
    subst h3
    rfl
theorem ownsMap_below {w w' : World} {mp n : Nat} {D : DataW Unit} (h : w.ownsMap Tryz.prog 3 (plainElem Tryz.prog 3) mp n D) (hb : Below w.heap.size w w') : w'.ownsMap Tryz.prog 3 (plainElem Tryz.prog 3) mp n D := by
  have hl := h.lt
  obtain ⟨es, clock, h1, h2⟩ := h
  exact ⟨es, clock, (hb.block mp hl).trans h1, h2⟩
theorem run_make_firsts (w : World) (N : Nat) : (Instr.makeMap 108 (some (.int .i64 (N : Int)))).run Tryz.prog w = .ok (.map (some w.heap.size)) (w.alloc (.map #[] 0)) := by
  simp [Instr.makeMap, run_underlying Tryz.underlying108, asInt, asIntOf]
theorem wf_nat {x : Nat} (h : x ≤ 9223372036854775807) : (Lit.int .i64 (x : Int)).wf = true := WalkArith.wf_i64 (by omega)
theorem firsts_any (ao : Option Addr) (N cap : Nat) (rs : List (List Nat)) (w : World) (h : LL w ao N cap rs) (hN : N ≤ 5864062014634) (hp : ∀ j, j < N → 0 < (Rn.rn rs j).length) (hf : ∀ j, j < N → Rn.fst rs j ≤ 17592186044416) (hd : ∀ i j, i < j → j < N → ¬ Rn.fst rs i = Rn.fst rs j) :
    Calls Tryz.prog 63 #[.slice ao N cap] w fun e w' => e = .returned (.map (some w.heap.size)) ∧ (∃ D, w'.ownsMap Tryz.prog 3 (plainElem Tryz.prog 3) w.heap.size N D ∧ MD rs N D) ∧ Below w.heap.size w w' := by
  have hmm := run_make_firsts
  have H := hide h
  have HP := hide hp
  have HF := hide hf
  have HD := hide hd
  clear h hp hf hd
  go_enter Tryz.func63, Tryz.ntmps63
  go_wp2
  go_loopw [11] (fun i wr => ∃ k : Nat, k ≤ N ∧ i = .int .i64 (k : Int) ∧ Hid ((∃ D, wr.ownsMap Tryz.prog 3 (plainElem Tryz.prog 3) w.heap.size k D ∧ MD rs k D) ∧ Below w.heap.size w wr)) (fun i _ => N - (intOf i).toNat)
  case atStart => exact ⟨0, Nat.zero_le _, rfl, hide ⟨⟨_, World.ownsMap_made _ _ _ _, MD.nil rs⟩, (Below.refl _ _).alloc (Nat.le_refl _) _⟩⟩
  case round =>
    obtain ⟨k, hk, rfl, hm⟩ := hrel
    obtain ⟨⟨D, hown, hD⟩, hnx⟩ := hm.out
    by_cases hlt : k < N
    · obtain ⟨g, gj, cj, rfl, hg, hc, hrow⟩ := (H.out.below hnx).at' k hlt
      have hp0 := HP.out k hlt
      obtain ⟨_, _, e1, _, hcr⟩ := hrow.cells hp0
      simp only [Option.some.injEq, Addr.mk.injEq, and_true] at e1
      obtain ⟨rfl, rfl⟩ := e1
      have c0 := hcr 0 (by rw [Rn.zs_len]; exact hp0)
      rw [Rn.zs_at _ _ hp0, show (Rn.rn rs k).getD 0 0 = Rn.fst rs k from rfl] at c0
      have hkey : keyOf Tryz.prog 3 (.int .i64 (Rn.fst rs k : Int)) = some (.int .i64 (Rn.fst rs k : Int)) := keyOf_int_mk Tryz.underlying3 (wf_nat (by have := HF.out k hlt; omega))
      have HDS := hide (hD.step (fun j hj => HD.out j k hj hlt))
      have hin : (k : Int) < (N : Int) := by omega
      generalize (Rn.rn rs k).length = m at *
      have hm0 : (0 : Int) < (m : Int) := by omega
      generalize Rn.fst rs k = f at *
      clear hcr hm hD hrow
      go_wp2_with (at_mapUpdate; refine wpList_mapUpdate_own _ rfl _ _ _ 108 rfl 3 3 lawInt Tryz.underlying108 _ w.heap.size k _ rfl hown (by unfold maxLen; omega) _ _ _ rfl rfl hkey _ [] (plainElem_int Tryz.underlying3 (wf_nat (by omega))) ?_; intro w1 hown1 hgrow1)
      go_roundw
      case rel => exact ⟨k + 1, by omega, by go_num, hide ⟨⟨_, hown1, HDS.out⟩, hnx.grown hgrow1 hnx.size (fun j hj => by cases hj; exact Nat.le_refl _)⟩⟩
      case measure => simp [intOf]; omega
    · obtain rfl : k = N := by omega
      have hne : ¬ ((k : Int) < (k : Int)) := by omega
      clear hm
      go_wp2
      go_ret
      exact ⟨rfl, ⟨D, hown, hD⟩, hnx⟩
/-- The paragraph in memory. -/
structure PG (w : World) (p : Nat) (b : Int) (lv mt : List Int) (rs : List (List Nat)) (bl bm n : Nat) (ao : Option Addr) (N cap mp : Nat) : Prop where
  c0 : w.cell? ⟨p, 0, none⟩ = some (.int .i64 b)
  c1 : w.cell? ⟨p, 1, none⟩ = some (.slice (some ⟨bl, 0, none⟩) n n)
  c2 : w.cell? ⟨p, 2, none⟩ = some (.slice (some ⟨bm, 0, none⟩) n n)
  c3 : w.cell? ⟨p, 3, none⟩ = some (.slice ao N cap)
  c4 : w.cell? ⟨p, 4, none⟩ = some (.map (some mp))
  lt : p < w.heap.size
  rl : Row .i64 w (some ⟨bl, 0, none⟩) n n lv
  rm : Row .i64 w (some ⟨bm, 0, none⟩) n n mt
  ll : LL w ao N cap rs
  mo : ∃ D, w.ownsMap Tryz.prog 3 (plainElem Tryz.prog 3) mp N D ∧ MD rs N D
  runs : Rn.Runs lv rs
  hn : n ≤ 2000
section
variable {w : World} {p : Nat} {b : Int} {lv mt : List Int} {rs : List (List Nat)} {bl bm n : Nat} {ao : Option Addr} {N cap mp : Nat}
theorem PG.below (h : PG w p b lv mt rs bl bm n ao N cap mp) {w' : World} (hb : Below w.heap.size w w') : PG w' p b lv mt rs bl bm n ao N cap mp := by
  obtain ⟨D, h1, h2⟩ := h.mo
  have hl := h.lt
  exact ⟨(hb.cell (by exact hl)).trans h.c0, (hb.cell (by exact hl)).trans h.c1, (hb.cell (by exact hl)).trans h.c2, (hb.cell (by exact hl)).trans h.c3, (hb.cell (by exact hl)).trans h.c4, Nat.lt_of_lt_of_le hl hb.size, h.rl.below hb, h.rm.below hb, h.ll.below hb, ⟨D, ownsMap_below h1 hb, h2⟩, h.runs, h.hn⟩
theorem PG.drewN (h : PG w p b lv mt rs bl bm n ao N cap mp) (q : Nat) : PG (w.drewN q) p b lv mt rs bl bm n ao N cap mp := h.below (below_drewN w q)
/-- A run's cells: its first and its last place. -/
theorem PG.run (h : PG w p b lv mt rs bl bm n ao N cap mp) {k : Nat} (hk : k < N) : ∃ g gj cj m, ao = some ⟨g, 0, none⟩ ∧ w.cell? ⟨g, k, none⟩ = some (.slice (some ⟨gj, 0, none⟩) (m + 1) cj) ∧ (Rn.rn rs k).length = m + 1 ∧ m + 1 ≤ 2000 ∧ Row .i64 w (some ⟨gj, 0, none⟩) (m + 1) cj (Rn.zs (Rn.rn rs k)) ∧ w.cell? ⟨gj, 0, none⟩ = some (.int .i64 (Rn.fst rs k : Int)) ∧ w.cell? ⟨gj, m, none⟩ = some (.int .i64 (Rn.lst rs k : Int)) ∧ Rn.fst rs k < n ∧ Rn.lst rs k < n := by
  have hN := h.ll.len
  have hr := h.runs
  have hlv := h.rl.len
  obtain ⟨g, gj, cj, rfl, hg, hc, hrow⟩ := h.ll.at' k hk
  have hp := hr.pos k (by omega)
  obtain ⟨m, hm⟩ : ∃ m, (Rn.rn rs k).length = m + 1 := ⟨(Rn.rn rs k).length - 1, by omega⟩
  have hml : (Rn.rn rs k).length ≤ n := by
    have h1 := Rn.mem_len (Rn.rn_mem (show k < rs.length by omega))
    rw [hr.flat] at h1
    have h2 := List.length_filter_le (Rn.kp lv) (List.range lv.length)
    rw [List.length_range] at h2
    omega
  have hn := h.hn
  obtain ⟨_, _, e1, _, hcr⟩ := hrow.cells hp
  simp only [Option.some.injEq, Addr.mk.injEq, and_true] at e1
  obtain ⟨rfl, rfl⟩ := e1
  have h0 := hcr 0 (by rw [Rn.zs_len]; exact hp)
  have h1 := hcr m (by rw [Rn.zs_len]; omega)
  rw [Nat.zero_add, Rn.zs_at _ _ (by omega)] at h0 h1
  have e2 : (Rn.rn rs k).getD m 0 = Rn.lst rs k := by unfold Rn.lst; rw [hm, Nat.add_sub_cancel]
  rw [e2] at h1
  have k0 := (hr.kept k 0 (by omega) hp).1
  have k1 := (hr.kept k m (by omega) (by omega)).1
  rw [e2] at k1
  rw [hm] at hc hrow
  exact ⟨g, gj, cj, m, rfl, hc, hm, by omega, hrow, h0, h1, by rw [← hlv]; exact k0, by rw [← hlv]; exact k1⟩
theorem row_at {k : IntKind} {W : World} {b n cap : Nat} {zs : List Int} (h : Row k W (some ⟨b, 0, none⟩) n cap zs) {i : Nat} (hi : i < n) : W.cell? ⟨b, i, none⟩ = some (.int k (zs.getD i 0)) := by
  obtain ⟨_, _, e, _, hc⟩ := h.cells (by omega)
  simp only [Option.some.injEq, Addr.mk.injEq, and_true] at e
  obtain ⟨rfl, rfl⟩ := e
  have := hc i (by rw [h.len]; exact hi)
  rw [Nat.zero_add] at this
  exact this
theorem PG.le (h : PG w p b lv mt rs bl bm n ao N cap mp) : N ≤ 2000 := by
  have h1 := Rn.flat_len (rs := rs) (fun r hr e => by
    subst e
    obtain ⟨j, hj, e2⟩ := List.mem_iff_getElem.1 hr
    have := h.runs.pos j hj
    have e3 : Rn.rn rs j = [] := by unfold Rn.rn; simp [List.getD, hj, e2]
    rw [e3] at this
    simp at this)
  rw [h.runs.flat] at h1
  have h2 := List.length_filter_le (Rn.kp lv) (List.range lv.length)
  rw [List.length_range] at h2
  have := h.hn
  have := h.rl.len
  have := h.ll.len
  omega
theorem plast_any (h : PG w p b lv mt rs bl bm n ao N cap mp) {k : Nat} (hk : k < N) :
    Calls Tryz.prog 113 #[.pointer (some ⟨p, 0, none⟩), .int .i64 (k : Int)] w fun e w' => e = .returned (.int .i64 (Rn.lst rs k : Int)) ∧ ∃ q, w' = w.drewN q := by
  obtain ⟨g, gj, cj, m, rfl, c1, e1, hm, hrow, c2, c3, l1, l2⟩ := h.run hk
  have c0 := h.c3
  have em : ((m + 1 : Nat) : Int) - 1 = (m : Int) := by omega
  have hin : (k : Int) < (N : Int) := by omega
  have hN := h.le
  generalize Rn.lst rs k = l at *
  generalize Rn.fst rs k = f at *
  clear h hrow e1
  go_enter Tryz.func113, Tryz.ntmps113
  go_wp2
  go_quiet (fail)
  go_wp2
  go_ret
  exact ⟨rfl, _, rfl⟩
theorem level_any (h : PG w p b lv mt rs bl bm n ao N cap mp) {k : Nat} (hk : k < N) :
    Calls Tryz.prog 87 #[.pointer (some ⟨p, 0, none⟩), .int .i64 (k : Int)] w fun e w' => e = .returned (.int .i64 (Rn.lvl lv rs k)) ∧ ∃ q, w' = w.drewN q := by
  obtain ⟨g, gj, cj, m, rfl, c1, e1, hm, hrow, c2, c3, l1, l2⟩ := h.run hk
  have c0 := h.c3
  have d0 := h.c1
  have d1 := row_at h.rl l1
  have hin : (k : Int) < (N : Int) := by omega
  have hfl : ((Rn.fst rs k : Nat) : Int) < (n : Int) := by omega
  have hN := h.le
  have hnn := h.hn
  unfold Rn.lvl
  generalize Rn.lst rs k = l at *
  generalize lv.getD (Rn.fst rs k) 0 = x at *
  generalize Rn.fst rs k = f at *
  clear h hrow e1
  go_enter Tryz.func87, Tryz.ntmps87
  go_wp2
  go_quiet (fail)
  go_wp2
  go_ret
  exact ⟨rfl, _, rfl⟩
theorem begins_any (h : PG w p b lv mt rs bl bm n ao N cap mp) {k : Nat} (hk : k < N) :
    Calls Tryz.prog 64 #[.pointer (some ⟨p, 0, none⟩), .int .i64 (k : Int)] w fun e w' => e = .returned (.bool (Rn.bg mt rs k)) ∧ w = w' := by
  obtain ⟨g, gj, cj, m, rfl, c1, e1, hm, hrow, c2, c3, l1, l2⟩ := h.run hk
  have c0 := h.c3
  have d0 := h.c2
  have d1 := row_at h.rm l1
  have hin : (k : Int) < (N : Int) := by omega
  have hfl : ((Rn.fst rs k : Nat) : Int) < (n : Int) := by omega
  have hN := h.le
  have hnn := h.hn
  unfold Rn.bg
  generalize Rn.lst rs k = l at *
  generalize mt.getD (Rn.fst rs k) 0 = x at *
  generalize Rn.fst rs k = f at *
  clear h hrow e1
  by_cases hx : x < 0
  · rw [decide_eq_true hx, Bool.true_or]
    go_enter Tryz.func64, Tryz.ntmps64
    go_wp2
    go_ret
    exact ⟨rfl, rfl⟩
  · rw [decide_eq_false hx, Bool.false_or]
    go_enter Tryz.func64, Tryz.ntmps64
    go_wp2
    go_ret
    exact ⟨ret_bool (by simp), rfl⟩
theorem ends_any (h : PG w p b lv mt rs bl bm n ao N cap mp) {k : Nat} (hk : k < N) :
    Calls Tryz.prog 104 #[.pointer (some ⟨p, 0, none⟩), .int .i64 (k : Int)] w fun e w' => e = .returned (.bool (Rn.en mt rs k)) ∧ ∃ q, w' = w.drewN q := by
  have HL := hide (plast_any h hk)
  obtain ⟨g, gj, cj, m, rfl, c1, e1, hm, hrow, c2, c3, l1, l2⟩ := h.run hk
  have d0 := h.c2
  have d1 := row_at h.rm l2
  have hll : ((Rn.lst rs k : Nat) : Int) < (n : Int) := by omega
  have hnn := h.hn
  unfold Rn.en
  generalize mt.getD (Rn.lst rs k) 0 = x at *
  generalize Rn.lst rs k = l at *
  clear h hrow e1 c1 c2 c3
  go_enter Tryz.func104, Tryz.ntmps104
  go_wp2_with fail
  refine HL.out.mono ?_
  rintro e w' ⟨rfl, q, rfl⟩
  have d0' : (w.drewN q).cell? ⟨p, 2, none⟩ = some (.slice (some ⟨bm, 0, none⟩) n n) := d0
  have d1' : (w.drewN q).cell? ⟨bm, l, none⟩ = some (.int .i64 x) := d1
  go_wp2
  go_ret
  exact ⟨ret_bool (by simp), _, rfl⟩
theorem ahead_any (h : PG w p b lv mt rs bl bm n ao N cap mp) {k : Nat} (hk : k < N) :
    Calls Tryz.prog 89 #[.pointer (some ⟨p, 0, none⟩), .int .i64 (k : Int)] w fun e w' => e = .returned (.int .i64 (Rn.ah b lv rs k)) ∧ ∃ q, w' = w.drewN q := by
  have hN := h.le
  have c0 := h.c0
  by_cases h0 : k = 0
  · subst h0
    have ez : Rn.ah b lv rs 0 = b := rfl
    rw [ez]
    clear h
    go_enter Tryz.func89, Tryz.ntmps89
    go_wp2
    go_ret
    exact ⟨rfl, 0, rfl⟩
  · obtain ⟨j, rfl⟩ : ∃ j, k = j + 1 := ⟨k - 1, by omega⟩
    have HL := hide (level_any h (k := j) (by omega))
    have ez : Rn.ah b lv rs (j + 1) = Rn.lvl lv rs j := rfl
    rw [ez]
    generalize Rn.lvl lv rs j = x at *
    have hne : (((j + 1 : Nat) : Int) == 0) = false := beq_false_of_ne (by omega)
    have hne2 : ¬ ((j + 1 : Nat) : Int) = 0 := by omega
    have e1 : ((j + 1 : Nat) : Int) - 1 = (j : Int) := by omega
    clear h
    go_enter Tryz.func89, Tryz.ntmps89
    go_wp2_with fail
    refine HL.out.mono ?_
    rintro e w' ⟨rfl, q, rfl⟩
    go_wp2
    go_ret
    exact ⟨rfl, _, rfl⟩
theorem behind_any (h : PG w p b lv mt rs bl bm n ao N cap mp) {k : Nat} (hk : k < N) :
    Calls Tryz.prog 90 #[.pointer (some ⟨p, 0, none⟩), .int .i64 (k : Int)] w fun e w' => e = .returned (.int .i64 (Rn.bh b lv mt rs k)) ∧ ∃ q, w' = w.drewN q := by
  have hN := h.le
  have c0 := h.c0
  have c3 := h.c3
  have hl := h.ll.len
  have HE := hide (ends_any h hk)
  unfold Rn.bh
  rw [hl]
  by_cases h0 : k = N - 1
  · rw [if_pos h0]
    have e1 : (N : Int) - 1 = (k : Int) := by omega
    clear h
    go_enter Tryz.func90, Tryz.ntmps90
    go_wp2
    go_ret
    exact ⟨rfl, 0, rfl⟩
  · rw [if_neg h0]
    have hne : ¬ (k : Int) = (N : Int) - 1 := by omega
    have hne2 : ((k : Int) == (N : Int) - 1) = false := beq_false_of_ne hne
    have HL := hide (fun q => level_any (h.drewN q) (k := k + 1) (by omega))
    have c0q : ∀ q, (w.drewN q).cell? ⟨p, 0, none⟩ = some (.int .i64 b) := fun q => c0
    cases hen : Rn.en mt rs k with
    | true =>
      rw [hen] at HE
      rw [if_pos rfl]
      clear h hen
      go_enter Tryz.func90, Tryz.ntmps90
      go_wp2_with (go_at_call 104; refine HE.out.mono ?_; rintro e w' ⟨rfl, q, rfl⟩; have c0' := c0q q)
      go_ret
      exact ⟨rfl, _, rfl⟩
    | false =>
      rw [hen] at HE
      rw [if_neg (by decide)]
      generalize Rn.lvl lv rs (k + 1) = x at *
      have e1 : ((k + 1 : Nat) : Int) = (k : Int) + 1 := by omega
      rw [e1] at HL
      clear h hen
      go_enter Tryz.func90, Tryz.ntmps90
      go_wp2_with (first
        | (go_at_call 104; refine HE.out.mono ?_; rintro e w' ⟨rfl, q, rfl⟩; have c0' := c0q q)
        | (go_at_call 87; refine (HL.out _).mono ?_; rintro e w' ⟨rfl, q2, rfl⟩))
      go_ret
      exact ⟨rfl, _, rfl⟩
end
theorem rside_any (x y : Int) (w : World) : Calls Tryz.prog 88 #[.int .i64 x, .int .i64 y] w fun e w' => e = .returned (.int .i64 (Rn.sd x y)) ∧ w = w' := by
  have hrm : ∀ (w' : World) (ts : Array TypeId) (t : TypeId), (Builtin.max_ ts t #[.int .i64 x, .int .i64 y]).run Tryz.prog w' = .ok (.int .i64 (max x y)) w' := by
    intro w' ts t
    rw [run_max_int2]
    congr 2
    split <;> omega
  unfold Rn.sd
  generalize max x y = m at *
  by_cases h : m.tmod 2 = 1
  · rw [if_pos h]
    have hb : (m.tmod 2 == 1) = true := by rw [h]; rfl
    clear h
    go_enter Tryz.func88, Tryz.ntmps88
    go_wp2
    go_ret
    exact ⟨rfl, rfl⟩
  · rw [if_neg h]
    have hb : (m.tmod 2 == 1) = false := beq_false_of_ne h
    clear h
    go_enter Tryz.func88, Tryz.ntmps88
    go_wp2
    go_ret
    exact ⟨rfl, rfl⟩
end Go.Proofs.YtfadjgaledddjaaGreatDoor

/- Chains of runs: plain mathematics. -/
namespace Go.Proofs.YtfadjgaledddjaaGreatDoor.Rn
set_option linter.unusedVariables false
/-- From a run on, as many as c of those that follow one another. -/
def chn (f : Nat → Option Nat) : Nat → Nat → List Nat
  | 0, _ => []
  | c + 1, k => k :: (match f k with | none => [] | some j => chn f c j)
/-- The one behind c of them. -/
def aft (f : Nat → Option Nat) : Nat → Nat → Option Nat
  | 0, k => some k
  | c + 1, k => match f k with | none => none | some j => aft f c j
theorem chn_succ (f : Nat → Option Nat) (c k : Nat) : chn f (c + 1) k = k :: (match f k with | none => [] | some j => chn f c j) := rfl
theorem aft_succ (f : Nat → Option Nat) (c k : Nat) : aft f (c + 1) k = match f k with | none => none | some j => aft f c j := rfl
theorem chn_add (f : Nat → Option Nat) (b : Nat) : ∀ a k, chn f (a + b) k = chn f a k ++ (match aft f a k with | none => [] | some j => chn f b j) := by
  intro a
  induction a with
  | zero => intro k; simp [chn, aft]
  | succ a ih =>
    intro k
    rw [show a + 1 + b = a + b + 1 from by omega, chn_succ, chn_succ, aft_succ]
    cases f k with
    | none => simp
    | some j => simp [ih j]
theorem aft_add (f : Nat → Option Nat) (b : Nat) : ∀ a k, aft f (a + b) k = match aft f a k with | none => none | some j => aft f b j := by
  intro a
  induction a with
  | zero => intro k; simp [aft]
  | succ a ih =>
    intro k
    rw [show a + 1 + b = a + b + 1 from by omega, aft_succ, aft_succ]
    cases f k with
    | none => simp
    | some j => simp [ih j]
theorem chn_ne (f : Nat → Option Nat) (c k : Nat) : chn f (c + 1) k ≠ [] := by rw [chn_succ]; simp
theorem chn_len (f : Nat → Option Nat) : ∀ c k, (chn f c k).length ≤ c := by
  intro c
  induction c with
  | zero => intro k; simp [chn]
  | succ c ih =>
    intro k
    rw [chn_succ]
    cases f k with
    | none => simp
    | some j => simpa using ih j
theorem aft_lt {f : Nat → Option Nat} {N : Nat} (h : ∀ k j, f k = some j → j < N) : ∀ c k j, k < N → aft f c k = some j → j < N := by
  intro c
  induction c with
  | zero => intro k j hk h1; simp [aft] at h1; omega
  | succ c ih =>
    intro k j hk h1
    rw [aft_succ] at h1
    cases hf : f k with
    | none => rw [hf] at h1; simp at h1
    | some i => rw [hf] at h1; exact ih i j (h k i hf) h1
/-- The last one. -/
def ltc (f : Nat → Option Nat) (c k : Nat) : Nat := (chn f c k).getD ((chn f c k).length - 1) 0
theorem last_append (a b : List Nat) (h : b ≠ []) : (a ++ b).getD ((a ++ b).length - 1) 0 = b.getD (b.length - 1) 0 := by
  have := List.length_pos_iff.2 h
  rw [List.length_append, show a.length + b.length - 1 = a.length + (b.length - 1) from by omega]
  simp [List.getD, List.getElem?_append_right]
theorem ltc_none {f : Nat → Option Nat} {a b k : Nat} (h : aft f a k = none) : chn f (a + b) k = chn f a k ∧ aft f (a + b) k = none ∧ ltc f (a + b) k = ltc f a k := by
  have e1 : chn f (a + b) k = chn f a k := by rw [chn_add, h]; simp
  exact ⟨e1, by rw [aft_add, h], by unfold ltc; rw [e1]⟩
theorem ltc_some {f : Nat → Option Nat} {a b k j : Nat} (h : aft f a k = some j) (hb : 0 < b) : chn f (a + b) k = chn f a k ++ chn f b j ∧ aft f (a + b) k = aft f b j ∧ ltc f (a + b) k = ltc f b j := by
  have e1 : chn f (a + b) k = chn f a k ++ chn f b j := by rw [chn_add, h]
  obtain ⟨c, rfl⟩ : ∃ c, b = c + 1 := ⟨b - 1, by omega⟩
  exact ⟨e1, by rw [aft_add, h], by unfold ltc; rw [e1]; exact last_append _ _ (chn_ne f c j)⟩
/-- The places of runs. -/
def plc (rs : List (List Nat)) (l : List Nat) : List Nat := l.flatMap (rn rs)
theorem plc_append (rs : List (List Nat)) (a b : List Nat) : plc rs (a ++ b) = plc rs a ++ plc rs b := by simp [plc]
theorem plc_one (rs : List (List Nat)) (k : Nat) : plc rs [k] = rn rs k := by simp [plc]
theorem plc_len {rs : List (List Nat)} {M : Nat} (h : ∀ j, (rn rs j).length ≤ M) (l : List Nat) : (plc rs l).length ≤ l.length * M := by
  induction l with
  | nil => simp [plc]
  | cons a t ih =>
    rw [show a :: t = [a] ++ t from rfl, plc_append, plc_one, List.length_append, List.length_append, List.length_singleton, Nat.add_mul, Nat.one_mul]
    have := h a
    omega
end Go.Proofs.YtfadjgaledddjaaGreatDoor.Rn

/- follower; the closure that grows a sequence. -/
namespace Go.Proofs.YtfadjgaledddjaaGreatDoor
open Go.RowKit Go.Maps
set_option linter.unusedVariables false
set_option maxHeartbeats 1000000
set_option maxRecDepth 100000
section
variable {w : World} {p : Nat} {b : Int} {lv mt : List Int} {rs : List (List Nat)} {bl bm n : Nat} {ao : Option Addr} {N cap mp : Nat}
theorem PG.mtwf (h : PG w p b lv mt rs bl bm n ao N cap mp) (hm : ∀ i, i < n → -1 ≤ mt.getD i 0 ∧ mt.getD i 0 ≤ (n : Int)) {k : Nat} (hk : k < N) : (Lit.int .i64 (mt.getD (Rn.lst rs k) 0)).wf = true := by
  obtain ⟨g, gj, cj, m, rfl, c1, e1, hml, hrow, c2, c3, l1, l2⟩ := h.run hk
  have := hm _ l2
  have := h.hn
  exact WalkArith.wf_i64 (by omega)
theorem follower_any (h : PG w p b lv mt rs bl bm n ao N cap mp) (hmr : ∀ i, i < n → -1 ≤ mt.getD i 0 ∧ mt.getD i 0 ≤ (n : Int)) {k : Nat} (hk : k < N) :
    Calls Tryz.prog 103 #[.pointer (some ⟨p, 0, none⟩), .int .i64 (k : Int)] w fun e w' => e = .returned (.int .i64 (Rn.oi (Rn.fo mt rs k))) ∧ ∃ q, w' = w.drewN q := by
  have HE := hide (ends_any h hk)
  have hl := h.ll.len
  unfold Rn.fo
  rw [hl]
  have HG := hide h
  cases hen : Rn.en mt rs k with
  | false =>
    rw [hen] at HE
    rw [if_neg (by decide)]
    clear h hen
    go_enter Tryz.func103, Tryz.ntmps103
    go_wp2_with (go_at_call 104; refine HE.out.mono ?_; rintro e w' ⟨rfl, q, rfl⟩)
    go_ret
    exact ⟨rfl, _, rfl⟩
  | true =>
    rw [hen] at HE
    rw [if_pos rfl]
    obtain ⟨fo, hfo⟩ : ∃ fo, Rn.fi rs N (mt.getD (Rn.lst rs k) 0) = fo := ⟨_, rfl⟩
    rw [hfo]
    have HF := hide hfo
    clear h hen hfo
    go_enter Tryz.func103, Tryz.ntmps103
    go_wp2_with fail
    refine HE.out.mono ?_
    rintro e W ⟨rfl, q, hW⟩
    have h : PG W p b lv mt rs bl bm n ao N cap mp := by rw [hW]; exact HG.out.drewN q
    have HL := hide (fun q => plast_any (h.drewN q) hk)
    have hwf := h.mtwf hmr hk
    have HK := hide (fun q => (show (Instr.lookup 108 (.map (some mp)) (.int .i64 (mt.getD (Rn.lst rs k) 0)) true).run Tryz.prog (W.drewN q) = .ok (.tuple #[.int .i64 (((Rn.fi rs N (mt.getD (Rn.lst rs k) 0)).getD 0 : Nat) : Int), .bool (Rn.fi rs N (mt.getD (Rn.lst rs k) 0)).isSome]) (W.drewN q) from by
      obtain ⟨D, h1, h2⟩ := (h.drewN q).mo
      exact h2.look h1 _ hwf))
    obtain ⟨g, gj, cj, m, rfl, c1, e1, hm, hrow, c2, c3, l1, l2⟩ := h.run hk
    have d0 := h.c2
    have d1 := row_at h.rm l2
    have d4 := h.c4
    have hnn := h.hn
    have hll : ((Rn.lst rs k : Nat) : Int) < (n : Int) := by omega
    have hf0 := HF.out
    generalize mt.getD (Rn.lst rs k) 0 = x at *
    generalize Rn.lst rs k = l at *
    have HW := hide hW
    clear HF
    cases fo with
    | none =>
      have hkq : ∀ q, (Instr.lookup 108 (.map (some mp)) (.int .i64 x) true).run Tryz.prog (W.drewN q) = .ok (.tuple #[.int .i64 0, .bool false]) (W.drewN q) := fun q => by have := HK.out q; rw [hf0] at this; exact this
      clear h hrow HK hf0 hW HG HE c1 c2 c3
      go_wp2_with fail
      go_quiet (first | (go_at_call 113; exact Calls.quiet_of (HL.out _)))
      go_wp2
      go_ret
      exact ⟨rfl, _, by rw [HW.out, World.drewN_drewN]⟩
    | some j =>
      have hkq : ∀ q, (Instr.lookup 108 (.map (some mp)) (.int .i64 x) true).run Tryz.prog (W.drewN q) = .ok (.tuple #[.int .i64 (j : Int), .bool true]) (W.drewN q) := fun q => by have := HK.out q; rw [hf0] at this; exact this
      clear h hrow HK hf0 hW HG HE c1 c2 c3
      go_wp2_with fail
      go_quiet (first | (go_at_call 113; exact Calls.quiet_of (HL.out _)))
      go_wp2
      go_ret
      exact ⟨rfl, _, by rw [HW.out, World.drewN_drewN]⟩
end
end Go.Proofs.YtfadjgaledddjaaGreatDoor

/- The closure that grows a sequence. -/
namespace Go.Proofs.YtfadjgaledddjaaGreatDoor
open Go.RowKit Go.Maps
set_option linter.unusedVariables false
set_option maxHeartbeats 1000000
set_option maxRecDepth 100000
/-- The closure, by what it holds. -/
def fv (B : Nat) : Value := .func (.func 102) #[] #[.pointer (some ⟨B + 1, 0, none⟩), .pointer (some ⟨B, 0, none⟩), .pointer (some ⟨B + 2, 0, none⟩), .pointer (some ⟨B + 3, 0, none⟩)]
/-- What grow keeps in memory. -/
structure GS (w0 W : World) (p : Nat) (v : Value) (ps : List Nat) (l : Int) : Prop where
  hp : W.heap[w0.heap.size]? = some (.cells #[.pointer (some ⟨p, 0, none⟩)] 105 (0, 0))
  hv : W.heap[w0.heap.size + 1]? = some (.cells #[v] 24 (0, 0))
  hl : W.heap[w0.heap.size + 2]? = some (.cells #[.int .i64 l] 3 (0, 0))
  hf : W.heap[w0.heap.size + 3]? = some (.cells #[fv w0.heap.size] 121 (0, 0))
  own : W.ownsRow (w0.heap.size + 4) 3 1 v ps.length ((Rn.zs ps).map (Value.int .i64))
  bel : Below w0.heap.size w0 W
section
variable {w0 W : World} {p : Nat} {v : Value} {ps : List Nat} {l : Int}
theorem GS.size (h : GS w0 W p v ps l) : w0.heap.size + 4 ≤ W.heap.size := (Array.getElem?_eq_some_iff.1 h.hf).1
theorem GS.cells (h : GS w0 W p v ps l) : W.cell? ⟨w0.heap.size, 0, none⟩ = some (.pointer (some ⟨p, 0, none⟩)) ∧ W.cell? ⟨w0.heap.size + 1, 0, none⟩ = some v ∧ W.cell? ⟨w0.heap.size + 2, 0, none⟩ = some (.int .i64 l) ∧ W.cell? ⟨w0.heap.size + 3, 0, none⟩ = some (fv w0.heap.size) := ⟨cell_of_one h.hp, cell_of_one h.hv, cell_of_one h.hl, cell_of_one h.hf⟩
theorem GS.free (h : GS w0 W p v ps l) : W.frozen? ⟨w0.heap.size + 1, 0, none⟩ = false ∧ W.frozen? ⟨w0.heap.size + 2, 0, none⟩ = false := ⟨free_of_one h.hv, free_of_one h.hl⟩
theorem GS.drewN (h : GS w0 W p v ps l) (q : Nat) : GS w0 (W.drewN q) p v ps l := by
  have hb := below_drewN W q
  have hs := h.size
  exact ⟨(hb.block _ (by omega)).trans h.hp, (hb.block _ (by omega)).trans h.hv, (hb.block _ (by omega)).trans h.hl, (hb.block _ (by omega)).trans h.hf, owns_below h.own hb, KO.on h.bel hb⟩
/-- What lies below stays while the row grows. -/
theorem GS.kept (h : GS w0 W p v ps l) {W' : World} (hb : Below (w0.heap.size + 4) W W') : W'.heap[w0.heap.size]? = some (.cells #[.pointer (some ⟨p, 0, none⟩)] 105 (0, 0)) ∧ W'.heap[w0.heap.size + 1]? = some (.cells #[v] 24 (0, 0)) ∧ W'.heap[w0.heap.size + 2]? = some (.cells #[.int .i64 l] 3 (0, 0)) ∧ W'.heap[w0.heap.size + 3]? = some (.cells #[fv w0.heap.size] 121 (0, 0)) := by
  exact ⟨(hb.block _ (by omega)).trans h.hp, (hb.block _ (by omega)).trans h.hv, (hb.block _ (by omega)).trans h.hl, (hb.block _ (by omega)).trans h.hf⟩
/-- Behind the two stores. -/
theorem GS.put (h : GS w0 W p v ps l) {W' : World} {v' : Value} {qs : List Nat} (hb : Below (w0.heap.size + 4) W W') (ho : W'.ownsRow (w0.heap.size + 4) 3 1 v' qs.length ((Rn.zs qs).map (Value.int .i64))) (k : Int) :
    GS w0 ((W'.setCell ⟨w0.heap.size + 1, 0, none⟩ v').setCell ⟨w0.heap.size + 2, 0, none⟩ (.int .i64 k)) p v' qs k ∧ GS w0 ((W'.setCell ⟨w0.heap.size + 2, 0, none⟩ (.int .i64 k)).setCell ⟨w0.heap.size + 1, 0, none⟩ v') p v' qs k := by
  obtain ⟨h1, h2, h3, h4⟩ := h.kept hb
  have hbel : Below w0.heap.size w0 W' := h.bel.trans (hb.mono (by omega))
  have key : ∀ (X : World) (a : Addr) (u : Value), (a = ⟨w0.heap.size + 1, 0, none⟩ ∨ a = ⟨w0.heap.size + 2, 0, none⟩) → X.ownsRow (w0.heap.size + 4) 3 1 v' qs.length ((Rn.zs qs).map (Value.int .i64)) → (X.setCell a u).ownsRow (w0.heap.size + 4) 3 1 v' qs.length ((Rn.zs qs).map (Value.int .i64)) := by
    intro X a u ha hX
    refine ownsRow_setCell_other hX (fun e => ?_) u
    have := (hX.lt _ e).1
    rcases ha with rfl | rfl <;> (simp only at this; omega)
  have oth : ∀ (X : World) (a : Addr) (u : Value) (g : Nat) (o : Option Obj), ¬ a.block = g → X.heap[g]? = o → (X.setCell a u).heap[g]? = o := by
    intro X a u g o hne hX
    rw [Below.heap_setCell _ _ _ _ (fun e => hne e.symm)]; exact hX
  have same : ∀ (X : World) (g : Nat) (u u' : Value) (t : TypeId), X.heap[g]? = some (.cells #[u] t (0, 0)) → (X.setCell ⟨g, 0, none⟩ u').heap[g]? = some (.cells #[u'] t (0, 0)) := by
    intro X g u u' t hX
    have := heap_setCell_same X g 0 #[u] t u' hX
    simpa using this
  refine ⟨⟨?_, ?_, ?_, ?_, ?_, ?_⟩, ⟨?_, ?_, ?_, ?_, ?_, ?_⟩⟩
  · exact oth _ _ _ _ _ (by simp) (oth _ _ _ _ _ (by simp) h1)
  · exact oth _ _ _ _ _ (by simp) (same _ _ _ _ _ h2)
  · exact same _ _ _ _ _ (oth _ _ _ _ _ (by simp) h3)
  · exact oth _ _ _ _ _ (by simp) (oth _ _ _ _ _ (by simp) h4)
  · exact key _ _ _ (.inr rfl) (key _ _ _ (.inl rfl) ho)
  · exact (hbel.setCell (p := ⟨w0.heap.size + 1, 0, none⟩) (by simp) _).setCell (p := ⟨w0.heap.size + 2, 0, none⟩) (by simp) _
  · exact oth _ _ _ _ _ (by simp) (oth _ _ _ _ _ (by simp) h1)
  · exact same _ _ _ _ _ (oth _ _ _ _ _ (by simp) h2)
  · exact oth _ _ _ _ _ (by simp) (same _ _ _ _ _ h3)
  · exact oth _ _ _ _ _ (by simp) (oth _ _ _ _ _ (by simp) h4)
  · exact key _ _ _ (.inl rfl) (key _ _ _ (.inr rfl) ho)
  · exact (hbel.setCell (p := ⟨w0.heap.size + 2, 0, none⟩) (by simp) _).setCell (p := ⟨w0.heap.size + 1, 0, none⟩) (by simp) _
theorem GS.row (h : GS w0 W p v ps l) : ∃ a c, v = .slice a ps.length c := by obtain ⟨a, c, e, _⟩ := owns_form h.own; exact ⟨a, c, e⟩
end
section
variable {w0 : World} {p : Nat} {b : Int} {lv mt : List Int} {rs : List (List Nat)} {bl bm n : Nat} {ao : Option Addr} {N cap mp : Nat}
theorem more_one (h0 : PG w0 p b lv mt rs bl bm n ao N cap mp) (hmr : ∀ i, i < n → -1 ≤ mt.getD i 0 ∧ mt.getD i 0 ≤ (n : Int)) {W : World} {v : Value} {ps : List Nat} {l : Int} (h : GS w0 W p v ps l) {k : Nat} (hk : k < N) (hlen : ps.length ≤ 10000000) :
    Calls Tryz.prog 102 #[.int .i64 (k : Int), .int .i64 1, .pointer (some ⟨w0.heap.size + 1, 0, none⟩), .pointer (some ⟨w0.heap.size, 0, none⟩), .pointer (some ⟨w0.heap.size + 2, 0, none⟩), .pointer (some ⟨w0.heap.size + 3, 0, none⟩)] W fun e W' => e = .returned (.int .i64 (Rn.oi (Rn.fo mt rs k))) ∧ ∃ v', GS w0 W' p v' (ps ++ Rn.rn rs k) (k : Int) := by
  obtain ⟨ii, hii, hy0, hy1, hy2⟩ := info_parts infoInt
  have HII := hide hii
  have HY0 := hide hy0
  have HY1 := hide hy1
  have HY2 := hide hy2
  have hW := h0.below h.bel
  obtain ⟨g, gj, cj, m, rfl, c1, e1, hm, hrow, c2, c3, l1, l2⟩ := hW.run hk
  have c0 := hW.c3
  obtain ⟨q0, q1, q2, q3⟩ := h.cells
  obtain ⟨f1, f2⟩ := h.free
  have hsz := h.size
  have HS := hide h
  have hN := h0.le
  have hin : (k : Int) < (N : Int) := by omega
  have HROW := hide hrow
  have HFO := hide (fun W' (hb : Below w0.heap.size w0 W') => follower_any (h0.below hb) hmr hk)
  generalize Rn.oi (Rn.fo mt rs k) = z at *
  have HE := hide e1
  obtain ⟨av, cv, rfl⟩ := h.row
  generalize hpl : ps.length = pn at *
  have HPL := hide hpl
  have HOW := hide (show W.ownsRow (w0.heap.size + 4) 3 1 (.slice av pn cv) pn ((Rn.zs ps).map (Value.int .i64)) from by have := h.own; rw [hpl] at this; exact this)
  clear h hrow hii hy0 hy1 hy2 hW e1 l1 l2 c2 c3 hpl
  go_enter Tryz.func102, Tryz.ntmps102
  go_wp2
  have HRD := hide (HROW.out.below (show Below W.heap.size W W.drew from (Below.refl _ _).drew))
  have HSD := hide (show GS w0 W.drew p (.slice av pn cv) ps l from ⟨HS.out.hp, HS.out.hv, HS.out.hl, HS.out.hf, HS.out.own.drew, HS.out.bel.drew⟩)
  clear HROW HS
  first | (go_region_law (first
    | (refine step_append_row W.drew rfl (.tmp 12) (.tmp 19) 24 rfl (w0.heap.size + 4) 3 ii (.int .i64 0) 8 Tryz.underlying24 HII.out HY0.out HY1.out HY2.out rfl (.slice av pn cv) pn _ rfl HOW.out.drew .i64 (some ⟨gj, 0, none⟩) (m + 1) cj (Rn.zs (Rn.rn rs k)) rfl HRD.out (by omega) (by omega) hsz ?_; intro v' w' ho' hb'; obtain ⟨g', c', rfl, _, _⟩ := owns_pos ho' (by omega); obtain ⟨_, t1, t2, _⟩ := HSD.out.kept hb'; have q1' := cell_of_one t1; have q2' := cell_of_one t2; have f1' := free_of_one t1; have f2' := free_of_one t2; have hput := (HSD.out.put (qs := ps ++ Rn.rn rs k) hb' (by rw [List.length_append, HPL.out, HE.out, Rn.zs_append, List.map_append]; exact ho') (k : Int)).1; obtain ⟨W5, hW5⟩ : ∃ W5, (w'.setCell ⟨w0.heap.size + 1, 0, none⟩ (.slice (some ⟨g', 0, none⟩) (pn + (m + 1)) c')).setCell ⟨w0.heap.size + 2, 0, none⟩ (.int .i64 (k : Int)) = W5 := ⟨_, rfl⟩; rw [hW5] at hput; have HPUT := hide hput; obtain ⟨r0, r1, r2, r3⟩ := hput.cells; clear hput t1 t2))) | fail
  all_goals
    have HFF := hide (HFO.out W5 HPUT.out.bel)
    go_wp2_with (go_at_call 103; refine HFF.out.mono ?_; rintro e w6 ⟨rfl, q, rfl⟩)
    go_ret
    exact ⟨rfl, _, HPUT.out.drewN q⟩
end
end Go.Proofs.YtfadjgaledddjaaGreatDoor

/- grow: all that a sequence has. -/
namespace Go.Proofs.YtfadjgaledddjaaGreatDoor
open Go.RowKit Go.Maps
set_option linter.unusedVariables false
set_option maxHeartbeats 1000000
set_option maxRecDepth 100000
section
variable {w0 : World} {p : Nat} {b : Int} {lv mt : List Int} {rs : List (List Nat)} {bl bm n : Nat} {ao : Option Addr} {N cap mp : Nat}
theorem PG.rowle (h : PG w0 p b lv mt rs bl bm n ao N cap mp) (j : Nat) : (Rn.rn rs j).length ≤ 2000 := by
  by_cases hj : j < N
  · obtain ⟨g, gj, cj, m, _, _, e1, hm, _⟩ := h.run hj
    omega
  · have hl := h.ll.len
    have : Rn.rn rs j = [] := by simp [Rn.rn, List.getD, List.getElem?_eq_none (show rs.length ≤ j by omega)]
    rw [this]; simp
theorem fo_lt {k j : Nat} (h : Rn.fo mt rs k = some j) : j < rs.length := by
  unfold Rn.fo at h
  split at h
  · exact (Rn.fi_some h).1
  · cases h
theorem more_any (h0 : PG w0 p b lv mt rs bl bm n ao N cap mp) (hmr : ∀ i, i < n → -1 ≤ mt.getD i 0 ∧ mt.getD i 0 ≤ (n : Int)) : ∀ (count : Nat), 0 < count → count ≤ 2000 → ∀ (k : Nat) (W : World) (v : Value) (ps : List Nat) (l : Int), k < N → GS w0 W p v ps l → ps.length + count * 2000 ≤ 9000000 →
    Calls Tryz.prog 102 #[.int .i64 (k : Int), .int .i64 (count : Int), .pointer (some ⟨w0.heap.size + 1, 0, none⟩), .pointer (some ⟨w0.heap.size, 0, none⟩), .pointer (some ⟨w0.heap.size + 2, 0, none⟩), .pointer (some ⟨w0.heap.size + 3, 0, none⟩)] W fun e W' => e = .returned (.int .i64 (Rn.oi (Rn.aft (Rn.fo mt rs) count k))) ∧ ∃ v', GS w0 W' p v' (ps ++ Rn.plc rs (Rn.chn (Rn.fo mt rs) count k)) (Rn.ltc (Rn.fo mt rs) count k : Int) := by
  intro count
  induction count using Nat.strongRecOn with
  | ind count ih =>
    intro hc0 hc1 k W v ps l hk h hlen
    by_cases h1 : count = 1
    · subst h1
      have e1 : Rn.chn (Rn.fo mt rs) 1 k = [k] := by rw [Rn.chn_succ]; cases Rn.fo mt rs k <;> rfl
      have e2 : Rn.aft (Rn.fo mt rs) 1 k = Rn.fo mt rs k := by rw [Rn.aft_succ]; cases Rn.fo mt rs k <;> rfl
      have e3 : Rn.ltc (Rn.fo mt rs) 1 k = k := by unfold Rn.ltc; rw [e1]; rfl
      rw [e1, e2, e3, Rn.plc_one]
      exact more_one h0 hmr h hk (by omega)
    · obtain ⟨c1, c2, hcc, hc3, hc4, hq⟩ : ∃ c1 c2, count = c1 + c2 ∧ 0 < c1 ∧ 0 < c2 ∧ (count : Int).tdiv 2 = (c1 : Int) := ⟨count / 2, count - count / 2, by omega, by omega, by omega, by rw [Int.tdiv_eq_ediv_of_nonneg (by omega)]; omega⟩
      have hN := h0.ll.len
      have HA := hide (ih c1 (by omega) hc3 (by omega) k W v ps l hk h (by omega))
      have hsub : (count : Int) - (c1 : Int) = (c2 : Int) := by omega
      have hpl := Rn.plc_len (h0.rowle) (Rn.chn (Rn.fo mt rs) c1 k)
      have hcl := Rn.chn_len (Rn.fo mt rs) c1 k
      have hpl2 : (Rn.plc rs (Rn.chn (Rn.fo mt rs) c1 k)).length ≤ c1 * 2000 := Nat.le_trans hpl (Nat.mul_le_mul_right _ hcl)
      have HQ := hide hq
      have hne1 : ((count : Int) == 1) = false := beq_false_of_ne (by omega)
      have hne2 : ¬ (count : Int) = 1 := by omega
      obtain ⟨q0, q1, q2, q3⟩ := h.cells
      unfold fv at q3
      cases hf : Rn.aft (Rn.fo mt rs) c1 k with
      | none =>
        obtain ⟨e1, e2, e3⟩ := Rn.ltc_none (b := c2) hf
        rw [hcc, e1, e2, e3, ← hcc]
        rw [hf] at HA
        generalize Rn.plc rs (Rn.chn (Rn.fo mt rs) c1 k) = xs at *
        generalize Rn.ltc (Rn.fo mt rs) c1 k = lt at *
        clear ih h hpl hcl hcc e1 e2 e3 hlen hpl2 HQ
        go_enter Tryz.func102, Tryz.ntmps102
        go_wp2_with fail
        refine HA.out.mono ?_
        rintro e W1 ⟨rfl, v1, hg1⟩
        go_wp2
        go_ret
        exact ⟨rfl, v1, hg1⟩
      | some j =>
        obtain ⟨e1, e2, e3⟩ := Rn.ltc_some (b := c2) hf hc4
        rw [hcc, e1, e2, e3, ← hcc, Rn.plc_append, ← List.append_assoc]
        rw [hf] at HA
        have hj : j < N := by rw [← hN]; exact Rn.aft_lt (f := Rn.fo mt rs) (N := rs.length) (fun _ _ hq => fo_lt hq) c1 k j (by omega) hf
        have HB := hide (fun W1 v1 l1 (hg1 : GS w0 W1 p v1 (ps ++ Rn.plc rs (Rn.chn (Rn.fo mt rs) c1 k)) l1) => ih c2 (by omega) hc4 (by omega) j W1 v1 _ l1 hj hg1 (by rw [List.length_append]; omega))
        generalize Rn.plc rs (Rn.chn (Rn.fo mt rs) c1 k) = xs at *
        generalize Rn.plc rs (Rn.chn (Rn.fo mt rs) c2 j) = ys at *
        generalize Rn.ltc (Rn.fo mt rs) c1 k = lt at *
        generalize Rn.ltc (Rn.fo mt rs) c2 j = lt2 at *
        generalize Rn.oi (Rn.aft (Rn.fo mt rs) c2 j) = z at *
        have hjn : ((j : Int) == -1) = false := beq_false_of_ne (by omega)
        have hjn2 : ¬ (j : Int) = -1 := by omega
        clear ih h hpl hcl hcc e1 e2 e3 hlen hpl2 HQ
        go_enter Tryz.func102, Tryz.ntmps102
        go_wp2_with fail
        refine HA.out.mono ?_
        rintro e W1 ⟨rfl, v1, hg1⟩
        have HG1 := hide (HB.out W1 v1 _ hg1)
        obtain ⟨p0, p1, p2, p3⟩ := hg1.cells
        unfold fv at p3
        clear hg1 HA HB
        go_wp2_with fail
        refine HG1.out.mono ?_
        rintro e W2 ⟨rfl, v2, hg2⟩
        go_wp2
        go_ret
        exact ⟨rfl, v2, hg2⟩
end
end Go.Proofs.YtfadjgaledddjaaGreatDoor
