import Derived.Test.YtmdmehopefgndaaGreatDoorZ01
import Derived.Laws.AppendOwnNone
import Derived.WalkKit
import Derived.Test.YtmdmehopefgndaaGreatDoorRows
import Derived.WalkSpells
import Derived.WalkLawsBesides
import Derived.WalkSmall
import Derived.OwnWalk
import Derived.Deep.QuietTactic
import Derived.BigQuiet
import Derived.Test.YtmdmehopefgndaaGreatDoorZ05
/- Level runs: plain mathematics. No Go in sight. -/
namespace Go.Proofs.YtmdmehopefgndaaGreatDoor.Rn
set_option linter.unusedVariables false
def zs (l : List Nat) : List Int := l.map fun (i : Nat) => (i : Int)
theorem zs_len (l : List Nat) : (zs l).length = l.length := by simp [zs]
theorem zs_append (a b : List Nat) : zs (a ++ b) = zs a ++ zs b := by simp [zs]
theorem zs_at (l : List Nat) (j : Nat) (h : j < l.length) : (zs l).getD j 0 = ((l.getD j 0 : Nat) : Int) := by
  simp [zs, List.getD, h]
/-- Is a place kept? -/
def kp (lv : List Int) (i : Nat) : Bool := decide (0 ≤ lv.getD i 0)
/-- A run; its first place, its last one. -/
def rn (rs : List (List Nat)) (j : Nat) : List Nat := rs.getD j []
def fst (rs : List (List Nat)) (j : Nat) : Nat := (rn rs j).getD 0 0
def lst (rs : List (List Nat)) (j : Nat) : Nat := (rn rs j).getD ((rn rs j).length - 1) 0
/-- One place more in the last run. -/
def grow (rs : List (List Nat)) (k : Nat) : List (List Nat) := rs.set (rs.length - 1) (rn rs (rs.length - 1) ++ [k])
theorem rn_snoc (a : List (List Nat)) (r : List Nat) : rn (a ++ [r]) a.length = r := by simp [rn, List.getD]
theorem rn_left (a b : List (List Nat)) (j : Nat) (h : j < a.length) : rn (a ++ b) j = rn a j := by simp [rn, List.getD, List.getElem?_append_left h]
theorem grow_snoc (a : List (List Nat)) (r : List Nat) (k : Nat) : grow (a ++ [r]) k = a ++ [r ++ [k]] := by
  unfold grow
  rw [List.length_append, List.length_singleton, Nat.add_sub_cancel, rn_snoc, List.set_append_right _ _ (Nat.le_refl _), Nat.sub_self]
  rfl
/-- The level of the last run, and the runs, behind k places. -/
def R (lv : List Int) : Nat → Int × List (List Nat)
  | 0 => (-1, [])
  | k + 1 => if lv.getD k 0 < 0 then R lv k else if lv.getD k 0 = (R lv k).1 then ((R lv k).1, grow (R lv k).2 k) else (lv.getD k 0, grow ((R lv k).2 ++ [[]]) k)
def RS (lv : List Int) : List (List Nat) := (R lv lv.length).2
theorem R_neg {lv : List Int} {k : Nat} (h : lv.getD k 0 < 0) : R lv (k + 1) = R lv k := by rw [R, if_pos h]
theorem R_same {lv : List Int} {k : Nat} (h : ¬ lv.getD k 0 < 0) (h1 : lv.getD k 0 = (R lv k).1) : R lv (k + 1) = ((R lv k).1, grow (R lv k).2 k) := by rw [R, if_neg h, if_pos h1]
theorem R_new {lv : List Int} {k : Nat} (h : ¬ lv.getD k 0 < 0) (h1 : ¬ lv.getD k 0 = (R lv k).1) : R lv (k + 1) = (lv.getD k 0, grow ((R lv k).2 ++ [[]]) k) := by rw [R, if_neg h, if_neg h1]
structure RI (lv : List Int) (k : Nat) (l : Int) (rs : List (List Nat)) : Prop where
  flat : rs.flatten = (List.range k).filter (kp lv)
  ne : ∀ r ∈ rs, r ≠ []
  lev : ∀ r ∈ rs, ∀ i ∈ r, lv.getD i 0 = lv.getD (r.getD 0 0) 0
  adj : ∀ j, j + 1 < rs.length → lv.getD (fst rs j) 0 ≠ lv.getD (fst rs (j + 1)) 0
  last : (rs = [] ∧ l = -1) ∨ (∃ a r, rs = a ++ [r] ∧ lv.getD (r.getD 0 0) 0 = l ∧ 0 ≤ l)
theorem head_snoc {r : List Nat} (h : r ≠ []) (k : Nat) : (r ++ [k]).getD 0 0 = r.getD 0 0 := by
  cases r with
  | nil => exact absurd rfl h
  | cons x t => simp [List.getD]
theorem fst_snoc (a : List (List Nat)) (r : List Nat) : fst (a ++ [r]) a.length = r.getD 0 0 := by unfold fst; rw [rn_snoc]
theorem fst_left (a b : List (List Nat)) (j : Nat) (h : j < a.length) : fst (a ++ b) j = fst a j := by unfold fst; rw [rn_left a b j h]
theorem RI.all (lv : List Int) : ∀ k, RI lv k (R lv k).1 (R lv k).2 := by
  intro k
  induction k with
  | zero => exact ⟨by simp [R], by simp [R], by simp [R], by simp [R], .inl ⟨rfl, rfl⟩⟩
  | succ k ih =>
    by_cases h0 : lv.getD k 0 < 0
    · rw [R_neg h0]
      refine ⟨?_, ih.ne, ih.lev, ih.adj, ih.last⟩
      have hk : kp lv k = false := by unfold kp; rw [decide_eq_false]; omega
      rw [List.range_succ, List.filter_append, ih.flat]
      simp [hk]
    · have hk : kp lv k = true := by unfold kp; rw [decide_eq_true_iff]; omega
      have hf : (List.range (k + 1)).filter (kp lv) = (R lv k).2.flatten ++ [k] := by
        rw [List.range_succ, List.filter_append, ih.flat]
        simp [hk]
      by_cases h1 : lv.getD k 0 = (R lv k).1
      · rw [R_same h0 h1]
        rcases ih.last with ⟨_, h2⟩ | ⟨a, r, h2, h3, h4⟩
        · omega
        · have hne : r ≠ [] := ih.ne r (by rw [h2]; simp)
          have hlv := ih.lev
          have hadj := ih.adj
          have hnn := ih.ne
          simp only
          rw [h2] at hf hlv hadj hnn ⊢
          rw [grow_snoc]
          refine ⟨?_, ?_, ?_, ?_, ?_⟩
          · rw [hf]; simp
          · intro q hq
            rcases List.mem_append.1 hq with hq | hq
            · exact hnn q (by simp [hq])
            · rw [List.mem_singleton.1 hq]; simp
          · intro q hq i hi
            rcases List.mem_append.1 hq with hq | hq
            · exact hlv q (by simp [hq]) i hi
            · rw [List.mem_singleton.1 hq] at hi ⊢
              rw [head_snoc hne]
              rcases List.mem_append.1 hi with hi | hi
              · exact hlv r (by simp) i hi
              · rw [List.mem_singleton.1 hi, h1, h3]
          · intro j hj
            have hj' : j + 1 < (a ++ [r]).length := by simpa using hj
            have := hadj j hj'
            have e : ∀ m, m < (a ++ [r]).length → fst (a ++ [r ++ [k]]) m = fst (a ++ [r]) m := by
              intro m hm
              by_cases hm2 : m < a.length
              · rw [fst_left _ _ _ hm2, fst_left _ _ _ hm2]
              · obtain rfl : m = a.length := by simp at hm; omega
                rw [fst_snoc, fst_snoc, head_snoc hne]
            rw [e j (by omega), e (j + 1) hj']
            exact this
          · exact .inr ⟨a, r ++ [k], rfl, by rw [head_snoc hne, h3], h4⟩
      · rw [R_new h0 h1]
        simp only
        rw [grow_snoc]
        refine ⟨?_, ?_, ?_, ?_, ?_⟩
        · rw [hf]; simp
        · intro q hq
          rcases List.mem_append.1 hq with hq | hq
          · exact ih.ne q hq
          · rw [List.mem_singleton.1 hq]; simp
        · intro q hq i hi
          rcases List.mem_append.1 hq with hq | hq
          · exact ih.lev q hq i hi
          · rw [List.mem_singleton.1 hq] at hi ⊢
            simp at hi
            subst hi
            simp
        · intro j hj
          rw [List.length_append, List.length_singleton] at hj
          by_cases hj2 : j + 1 < (R lv k).2.length
          · rw [fst_left _ _ _ (by omega), fst_left _ _ _ hj2]
            exact ih.adj j hj2
          · obtain hj3 : j + 1 = (R lv k).2.length := by omega
            rw [hj3, fst_snoc, fst_left _ _ _ (by omega)]
            rcases ih.last with ⟨h2, _⟩ | ⟨a, r, h2, h3, h4⟩
            · rw [h2] at hj3; simp at hj3
            · rw [h2] at hj3 ⊢
              obtain rfl : j = a.length := by simp at hj3; omega
              rw [fst_snoc, h3]
              simp
              exact fun h => h1 h.symm
        · exact .inr ⟨(R lv k).2, [k], by simp, by simp, by omega⟩
/-- Nothing is kept between two places. -/
def Adj (lv : List Int) (x y : Nat) : Prop := x < y ∧ ∀ z, x < z → z < y → kp lv z = false
theorem keptSorted (lv : List Int) (n : Nat) : ((List.range n).filter (kp lv)).Pairwise (· < ·) := List.Pairwise.filter _ List.pairwise_lt_range
theorem adj_of {lv : List Int} {n : Nat} {A B : List Nat} {x y : Nat} (h : (List.range n).filter (kp lv) = A ++ x :: y :: B) : Adj lv x y := by
  have hs := keptSorted lv n
  have hm : ∀ z, z < n → kp lv z = true → z ∈ (List.range n).filter (kp lv) := fun z h1 h2 => List.mem_filter.2 ⟨List.mem_range.2 h1, h2⟩
  have hy : y < n := List.mem_range.1 (List.mem_filter.1 (show y ∈ (List.range n).filter (kp lv) from by rw [h]; simp)).1
  rw [h] at hs hm
  obtain ⟨h1, h2, h3⟩ := List.pairwise_append.1 hs
  obtain ⟨h4, h5⟩ := List.pairwise_cons.1 h2
  obtain ⟨h6, h7⟩ := List.pairwise_cons.1 h5
  refine ⟨h4 y (by simp), fun z z1 z2 => ?_⟩
  cases hz : kp lv z with
  | false => rfl
  | true =>
    have := hm z (by omega) hz
    rcases List.mem_append.1 this with q | q
    · have := h3 z q x (by simp); omega
    · rcases List.mem_cons.1 q with q | q
      · omega
      · rcases List.mem_cons.1 q with q | q
        · omega
        · have := h6 z q; omega
theorem split_at {α : Type} (l : List α) (j : Nat) (d : α) (h : j < l.length) : l = l.take j ++ l.getD j d :: l.drop (j + 1) := by
  have : l.getD j d = l[j] := by simp [List.getD, h]
  rw [this, List.getElem_cons_drop h, List.take_append_drop]
theorem split_at2 {α : Type} (l : List α) (j : Nat) (d : α) (h : j + 1 < l.length) : l = l.take j ++ l.getD j d :: l.getD (j + 1) d :: l.drop (j + 2) := by
  have h1 := split_at l j d (by omega)
  have h2 := split_at (l.drop (j + 1)) 0 d (by simp; omega)
  have h3 : (l.drop (j + 1)).getD 0 d = l.getD (j + 1) d := by simp [List.getD]
  rw [h3, List.take_zero, List.nil_append, List.drop_drop] at h2
  rw [show j + 1 + (0 + 1) = j + 2 from by omega] at h2
  rw [← h2]
  exact h1
/-- Runs as they are. -/
structure Runs (lv : List Int) (rs : List (List Nat)) : Prop where
  flat : rs.flatten = (List.range lv.length).filter (kp lv)
  pos : ∀ j, j < rs.length → 0 < (rn rs j).length
  kept : ∀ j m, j < rs.length → m < (rn rs j).length → (rn rs j).getD m 0 < lv.length ∧ kp lv ((rn rs j).getD m 0) = true ∧ lv.getD ((rn rs j).getD m 0) 0 = lv.getD (fst rs j) 0
  inner : ∀ j m, j < rs.length → m + 1 < (rn rs j).length → Adj lv ((rn rs j).getD m 0) ((rn rs j).getD (m + 1) 0)
  outer : ∀ j, j + 1 < rs.length → Adj lv (lst rs j) (fst rs (j + 1)) ∧ lv.getD (fst rs j) 0 ≠ lv.getD (fst rs (j + 1)) 0
  before : 0 < rs.length → ∀ z, z < fst rs 0 → kp lv z = false
  after : 0 < rs.length → ∀ z, lst rs (rs.length - 1) < z → z < lv.length → kp lv z = false
  cover : ∀ z, z < lv.length → kp lv z = true → ∃ j m, j < rs.length ∧ m < (rn rs j).length ∧ (rn rs j).getD m 0 = z
theorem rn_mem {rs : List (List Nat)} {j : Nat} (h : j < rs.length) : rn rs j ∈ rs := by
  unfold rn
  rw [show rs.getD j [] = rs[j] from by simp [List.getD, h]]
  exact List.getElem_mem h
theorem getD_mem {l : List Nat} {m : Nat} (h : m < l.length) : l.getD m 0 ∈ l := by
  rw [show l.getD m 0 = l[m] from by simp [List.getD, h]]
  exact List.getElem_mem h
theorem last_split {r : List Nat} (h : 0 < r.length) : r = r.take (r.length - 1) ++ [r.getD (r.length - 1) 0] := by
  have := split_at r (r.length - 1) 0 (by omega)
  rw [show r.length - 1 + 1 = r.length from by omega, List.drop_length] at this
  exact this
theorem runs_of (lv : List Int) : Runs lv (RS lv) := by
  have hI := RI.all lv lv.length
  unfold RS
  generalize (R lv lv.length).2 = rs at *
  generalize (R lv lv.length).1 = l at *
  have hpos : ∀ j, j < rs.length → 0 < (rn rs j).length := fun j hj => List.length_pos_iff.2 (hI.ne _ (rn_mem hj))
  have hsorted := keptSorted lv lv.length
  refine ⟨hI.flat, hpos, ?_, ?_, ?_, ?_, ?_, ?_⟩
  · intro j m hj hm
    have h1 : (rn rs j).getD m 0 ∈ (List.range lv.length).filter (kp lv) := by
      rw [← hI.flat]
      exact List.mem_flatten.2 ⟨_, rn_mem hj, getD_mem hm⟩
    have h2 := List.mem_filter.1 h1
    exact ⟨List.mem_range.1 h2.1, h2.2, hI.lev _ (rn_mem hj) _ (getD_mem hm)⟩
  · intro j m hj hm
    have h1 := split_at rs j [] hj
    have h2 := split_at2 (rn rs j) m 0 hm
    refine adj_of (n := lv.length) (A := (rs.take j).flatten ++ (rn rs j).take m) (B := (rn rs j).drop (m + 2) ++ (rs.drop (j + 1)).flatten) ?_
    rw [← hI.flat]
    conv => lhs; rw [h1]
    rw [List.flatten_append, List.flatten_cons]
    rw [show rs.getD j [] = rn rs j from rfl]
    conv => lhs; rw [h2]
    simp
  · intro j hj
    refine ⟨?_, hI.adj j hj⟩
    have h1 := split_at2 rs j [] hj
    have h2 := last_split (hpos j (by omega))
    have h3 := split_at (rn rs (j + 1)) 0 0 (hpos (j + 1) hj)
    refine adj_of (n := lv.length) (A := (rs.take j).flatten ++ (rn rs j).take ((rn rs j).length - 1)) (B := (rn rs (j + 1)).drop 1 ++ (rs.drop (j + 2)).flatten) ?_
    rw [← hI.flat]
    conv => lhs; rw [h1]
    rw [List.flatten_append, List.flatten_cons, List.flatten_cons]
    rw [show rs.getD j [] = rn rs j from rfl, show rs.getD (j + 1) [] = rn rs (j + 1) from rfl]
    conv => lhs; rw [h2, h3]
    simp [lst, fst]
  · intro h0 z hz
    cases hk : kp lv z with
    | false => rfl
    | true =>
      have h1 := split_at rs 0 [] h0
      have h3 := split_at (rn rs 0) 0 0 (hpos 0 h0)
      have hfl : (List.range lv.length).filter (kp lv) = fst rs 0 :: ((rn rs 0).drop 1 ++ (rs.drop 1).flatten) := by
        rw [← hI.flat]
        conv => lhs; rw [h1]
        rw [List.flatten_append, List.flatten_cons]
        rw [show rs.getD 0 [] = rn rs 0 from rfl]
        conv => lhs; rw [h3]
        simp [fst]
      have hlt : fst rs 0 < lv.length := by
        have : fst rs 0 ∈ (List.range lv.length).filter (kp lv) := by rw [hfl]; simp
        exact List.mem_range.1 (List.mem_filter.1 this).1
      have hm : z ∈ (List.range lv.length).filter (kp lv) := List.mem_filter.2 ⟨List.mem_range.2 (by omega), hk⟩
      rw [hfl] at hm hsorted
      rcases List.mem_cons.1 hm with q | q
      · omega
      · have := (List.pairwise_cons.1 hsorted).1 z q; omega
  · intro h0 z hz hz2
    cases hk : kp lv z with
    | false => rfl
    | true =>
      have h1 := split_at rs (rs.length - 1) [] (by omega)
      have h3 := last_split (hpos (rs.length - 1) (by omega))
      have hfl : (List.range lv.length).filter (kp lv) = ((rs.take (rs.length - 1)).flatten ++ (rn rs (rs.length - 1)).take ((rn rs (rs.length - 1)).length - 1)) ++ [lst rs (rs.length - 1)] := by
        rw [← hI.flat]
        conv => lhs; rw [h1]
        rw [List.flatten_append, List.flatten_cons, show rs.length - 1 + 1 = rs.length from by omega, List.drop_length]
        rw [show rs.getD (rs.length - 1) [] = rn rs (rs.length - 1) from rfl]
        conv => lhs; rw [h3]
        simp [lst]
      have hm : z ∈ (List.range lv.length).filter (kp lv) := List.mem_filter.2 ⟨List.mem_range.2 hz2, hk⟩
      rw [hfl] at hm hsorted
      rcases List.mem_append.1 hm with q | q
      · have := (List.pairwise_append.1 hsorted).2.2 z q (lst rs (rs.length - 1)) (by simp); omega
      · simp at q; omega
  · intro z hz hk
    have hm : z ∈ rs.flatten := by rw [hI.flat]; exact List.mem_filter.2 ⟨List.mem_range.2 hz, hk⟩
    obtain ⟨r, hr, hzr⟩ := List.mem_flatten.1 hm
    obtain ⟨j, hj, rfl⟩ := List.mem_iff_getElem.1 hr
    obtain ⟨m, hm2, rfl⟩ := List.mem_iff_getElem.1 hzr
    have e : rn rs j = rs[j] := by simp [rn, List.getD, hj]
    refine ⟨j, m, hj, by rw [e]; exact hm2, ?_⟩
    rw [e]
    simp [List.getD, hm2]
theorem RI.len_le {lv : List Int} {k : Nat} {l : Int} {rs : List (List Nat)} (h : RI lv k l rs) : rs.flatten.length ≤ k := by
  rw [h.flat]
  exact Nat.le_trans (List.length_filter_le _ _) (by simp)
theorem flat_len {rs : List (List Nat)} (h : ∀ r ∈ rs, r ≠ []) : rs.length ≤ rs.flatten.length := by
  induction rs with
  | nil => simp
  | cons r t ih =>
    have h1 := ih (fun q hq => h q (by simp [hq]))
    have h2 := List.length_pos_iff.2 (h r (by simp))
    rw [List.flatten_cons, List.length_append, List.length_cons]
    omega
theorem mem_len {rs : List (List Nat)} {r : List Nat} (h : r ∈ rs) : r.length ≤ rs.flatten.length := by
  induction rs with
  | nil => cases h
  | cons q t ih =>
    rw [List.flatten_cons, List.length_append]
    rcases List.mem_cons.1 h with rfl | h
    · omega
    · have := ih h; omega
theorem R_len (lv : List Int) (k : Nat) : (R lv k).2.length ≤ k := Nat.le_trans (flat_len (RI.all lv k).ne) (RI.all lv k).len_le
theorem R_row (lv : List Int) (k j : Nat) (hj : j < (R lv k).2.length) : (rn (R lv k).2 j).length ≤ k := Nat.le_trans (mem_len (rn_mem hj)) (RI.all lv k).len_le
end Go.Proofs.YtmdmehopefgndaaGreatDoor.Rn

/- What a call keeps; small laws on numbers and lists. -/
namespace Go.Proofs.YtmdmehopefgndaaGreatDoor
open Go.RowKit
set_option linter.unusedVariables false
theorem w64_small {x : Int} (h1 : -9223372036854775808 ≤ x) (h2 : x ≤ 9223372036854775807) : wrap64 x = x := by unfold wrap64; omega
theorem w64_nat {x : Int} {k : Nat} (h : x = (k : Int)) (hk : k ≤ 9223372036854775807) : wrap64 x = (k : Int) := by rw [h]; exact w64_small (by omega) (by omega)
def KO (w w' : World) : Prop := Below w.heap.size w w'
theorem KO.refl (w : World) : KO w w := Below.refl _ _
theorem KO.drew {w w' : World} (h : KO w w') : KO w w'.drew := Below.drew h
theorem KO.alloc {w w' : World} (h : KO w w') (o : Obj) : KO w (w'.alloc o) := Below.alloc h (Below.size h) o
theorem KO.on {w a b : World} (h : KO w a) (k : Below a.heap.size a b) : KO w b := Below.trans h (k.mono (Below.size h))
theorem take_snoc' {α : Type} (l : List α) (k : Nat) (x : α) (h : l[k]? = some x) : l.take (k + 1) = l.take k ++ [x] := by
  obtain ⟨hk, hx⟩ := List.getElem?_eq_some_iff.1 h
  rw [List.take_succ_eq_append_getElem hk, hx]
theorem prefix_at {α : Type} {pre xs : List α} {x : α} (h : pre ++ [x] <+: xs) : xs[pre.length]? = some x ∧ pre = xs.take pre.length := by
  obtain ⟨t, rfl⟩ := h
  constructor
  · simp
  · simp
theorem prefix_take {α : Type} (xs : List α) (k : Nat) : xs.take k <+: xs := List.take_prefix k xs
end Go.Proofs.YtmdmehopefgndaaGreatDoor

/- 'append([]T{}, l...)': a copy of a list, as the laws make it. -/
namespace Go.Proofs.YtmdmehopefgndaaGreatDoor
open Go.RowKit
set_option linter.unusedVariables false
/-- An append of a whole list to what the call owns: the list is nil or not. -/
theorem wp_append_row {P : Program} (w : World) {o : Oper} {a : Act} {K : Act → World → Prop} {Q : Exit → Act → World → Prop} (s x : Operand) (t : TypeId)
    (ho : o.op = .call { callee := .builtin .append, args := #[s, x], argTypes := #[t, t] })
    (base : Nat) (e : TypeId) (i : TypeInfo) (z : Value) (bytes : Nat) (ht : P.underlying t = some (.slice e)) (hi : P.info? e = some i) (hz : i.zero = some z)
    (hsize : i.size = 1) (hby : i.bytes = bytes) (hzs : z.cells.size = 1)
    (v : Value) (n : Nat) (xs : List Value) (hs : a.eval s = v) (hown : w.ownsRow base e 1 v n xs)
    (k : IntKind) (ao : Option Addr) (m c : Nat) (zs : List Int) (hx : a.eval x = .slice ao m c) (hrow : Row k w ao m c zs)
    (hbytes : (n + m) * bytes ≤ 140737488355328) (hb1 : 1 ≤ bytes) (hbase : base ≤ w.heap.size)
    (h : ∀ v' w', w'.ownsRow base e 1 v' (n + m) (xs ++ zs.map (Value.int k)) → Below base w w' → K (a.put o.dst v') w') : o.wp P a w K Q := by
  have h63 : n + m ≤ maxLen := by
    have : (n + m) * 1 ≤ (n + m) * bytes := Nat.mul_le_mul_left _ hb1
    unfold maxLen; omega
  have hbel : ∀ w', w.grownBy w' v.ownBlock → Below base w w' := fun w' hg => (Below.refl base w).grown hg hbase (fun j hj => (hown.lt j hj).1)
  cases ao with
  | none =>
    have hc := hrow.nil rfl
    have hm : m = 0 := by have := hrow.le; omega
    subst hc hm
    have hzs0 : zs = [] := List.length_eq_zero_iff.1 hrow.len
    subst hzs0
    have hrun := run_append_owned_none (P := P) (w := w) base t o.type e i 1 ht hi v n xs hown
    have hK := h v w (by simpa using hown) (Below.refl _ _)
    unfold Oper.wp
    simp [execOp, ho, resolve, invoke, builtin, hs, hx, hrun, Result.andThen]
    exact hK
  | some ad =>
    refine wp_append_own w s x t ho base e i z 1 bytes ht hi hz hsize hby hzs (by decide) v n xs hs hown ad m c (zs.map (Value.int k)) hx (by simp [hrow.len]) ?_ (ints_oneCell k zs) h63 hbytes hbase (fun v' w' h1 h2 _ => h v' w' h1 (hbel w' h2))
    intro j u hj
    have hjl : j < zs.length := by
      have := (List.getElem?_eq_some_iff.1 hj).1
      simpa using this
    have hl := hrow.len
    obtain ⟨b, off, e1, _, hc⟩ := hrow.cells (by omega)
    simp only [Option.some.injEq] at e1
    subst e1
    have hadd : (⟨b, off, none⟩ : Addr).add j = ⟨b, off + j, none⟩ := by unfold Addr.add; split <;> simp_all
    rw [hadd, hc j hjl]
    rw [List.getElem?_map, List.getElem?_eq_getElem hjl] at hj
    simp only [Option.map_some, Option.some.injEq] at hj
    rw [← hj]
    simp [List.getD, List.getElem?_eq_getElem hjl]
theorem wpList_append_row {P : Program} (w : World) {ops : Array Oper} {rest : List Oper} {o : Oper} {a : Act} {Q : Exit → Act → World → Prop} (hw : Region.wanted o (yielded ops a.tmps) = true) (s x : Operand) (t : TypeId)
    (ho : o.op = .call { callee := .builtin .append, args := #[s, x], argTypes := #[t, t] })
    (base : Nat) (e : TypeId) (i : TypeInfo) (z : Value) (bytes : Nat) (ht : P.underlying t = some (.slice e)) (hi : P.info? e = some i) (hz : i.zero = some z)
    (hsize : i.size = 1) (hby : i.bytes = bytes) (hzs : z.cells.size = 1)
    (v : Value) (n : Nat) (xs : List Value) (hs : a.eval s = v) (hown : w.ownsRow base e 1 v n xs)
    (k : IntKind) (ao : Option Addr) (m c : Nat) (zs : List Int) (hx : a.eval x = .slice ao m c) (hrow : Row k w ao m c zs)
    (hbytes : (n + m) * bytes ≤ 140737488355328) (hb1 : 1 ≤ bytes) (hbase : base ≤ w.heap.size)
    (h : ∀ v' w', w'.ownsRow base e 1 v' (n + m) (xs ++ zs.map (Value.int k)) → Below base w w' → wpList P ops Q rest (a.put o.dst v') w') : wpList P ops Q (o :: rest) a w :=
  BigFrame.wpList_want hw fun K hK => wp_append_row w s x t ho base e i z bytes ht hi hz hsize hby hzs v n xs hs hown k ao m c zs hx hrow hbytes hb1 hbase fun v' w' h1 h2 => hK _ _ (h v' w' h1 h2)
/-- The same at a step of a region that draws its order. -/
theorem step_append_row {P : Program} (w : World) {ops : Array Oper} {o : Oper} {a : Act} {K : Act → World → Prop} {Q : Exit → Act → World → Prop} {E : Prop} (hgd : o.guard = none) (s x : Operand) (t : TypeId)
    (ho : o.op = .call { callee := .builtin .append, args := #[s, x], argTypes := #[t, t] })
    (base : Nat) (e : TypeId) (i : TypeInfo) (z : Value) (bytes : Nat) (ht : P.underlying t = some (.slice e)) (hi : P.info? e = some i) (hz : i.zero = some z)
    (hsize : i.size = 1) (hby : i.bytes = bytes) (hzs : z.cells.size = 1)
    (v : Value) (n : Nat) (xs : List Value) (hs : a.eval s = v) (hown : w.ownsRow base e 1 v n xs)
    (k : IntKind) (ao : Option Addr) (m c : Nat) (zs : List Int) (hx : a.eval x = .slice ao m c) (hrow : Row k w ao m c zs)
    (hbytes : (n + m) * bytes ≤ 140737488355328) (hb1 : 1 ≤ bytes) (hbase : base ≤ w.heap.size)
    (h : ∀ v' w', w'.ownsRow base e 1 v' (n + m) (xs ++ zs.map (Value.int k)) → Below base w w' → K (a.put o.dst v') w') :
    if Region.wanted o (yielded ops a.tmps) = true then Oper.wp P o a w K Q else E := by
  have hw : Region.wanted o (yielded ops a.tmps) = true := by simp [Region.wanted, hgd]
  rw [if_pos hw]
  exact wp_append_row w s x t ho base e i z bytes ht hi hz hsize hby hzs v n xs hs hown k ao m c zs hx hrow hbytes hb1 hbase h
end Go.Proofs.YtmdmehopefgndaaGreatDoor

/- Pieces of slices: what they are, and that they are rows. -/
namespace Go.Proofs.YtmdmehopefgndaaGreatDoor
open Go.RowKit
set_option linter.unusedVariables false
/-- Where a piece begins. -/
def tl (ao : Option Addr) (cap j : Nat) : Option Addr := if cap = j then ao else ao.map (·.add j)
theorem Row.drop {k : IntKind} {w : World} {ao : Option Addr} {n cap : Nat} {xs : List Int} (h : Row k w ao n cap xs) {j : Nat} (hj : j ≤ n) : Row k w (tl ao cap j) (n - j) (cap - j) (xs.drop j) := by
  have hle := h.le
  refine ⟨by rw [List.length_drop, h.len], by omega, by have := h.max; omega, fun h0 => ?_, fun hn => ?_⟩
  · obtain ⟨b, off, rfl, hb, hc⟩ := h.cells (by omega)
    refine ⟨b, off + j, ?_, hb, hc.drop j⟩
    unfold tl
    rw [if_neg (by omega)]
    simp only [Option.map_some, Option.some.injEq]
    unfold Addr.add
    split <;> simp_all
  · have : ao = none := by
      unfold tl at hn
      split at hn
      · exact hn
      · simpa using hn
    have := h.nil this
    omega
theorem run_from {P : Program} {t e : TypeId} {i : TypeInfo} (ht : P.underlying t = some (.slice e)) (hi : P.info? e = some i) (hc : P.cellsOf e = 1) (ao : Option Addr) (n cap j : Nat) (hj : j ≤ n) (w : World) :
    (Instr.slice t (.slice ao n cap) (some (.int .i64 (j : Int))) none none).run P w = .ok (.slice (tl ao cap j) (n - j) (cap - j)) w := by
  have e1 : (0 : Int) ≤ (j : Int) ∧ (j : Int) ≤ (n : Int) := by omega
  simp [Instr.slice, run_underlying ht, Instr.sliceBounds, go_sem, e1, run_sizeOf w hi, hc, tl]
theorem run_upto {P : Program} {t e : TypeId} {i : TypeInfo} (ht : P.underlying t = some (.slice e)) (hi : P.info? e = some i) (hc : P.cellsOf e = 1) (ao : Option Addr) (n cap j : Nat) (hj : j ≤ cap) (w : World) :
    (Instr.slice t (.slice ao n cap) none (some (.int .i64 (j : Int))) none).run P w = .ok (.slice ao j cap) w := by
  have e1 : (0 : Int) ≤ (j : Int) ∧ (j : Int) ≤ (cap : Int) := by omega
  simp [Instr.slice, run_underlying ht, Instr.sliceBounds, go_sem, e1, run_sizeOf w hi, hc]
end Go.Proofs.YtmdmehopefgndaaGreatDoor

/- Rows of ints: their type, what a call owns of them, like ones. -/
namespace Go.Proofs.YtmdmehopefgndaaGreatDoor
open Go.RowKit
set_option linter.unusedVariables false
set_option maxHeartbeats 1000000
set_option maxRecDepth 100000
theorem infoInt : (Tryz.prog.info? 3).map (fun i => (i.zero, i.size, i.bytes)) = some (some (.int .i64 0), 1, 8) := by kernel_rfl
theorem cellsInt : Tryz.prog.cellsOf 3 = 1 := by kernel_rfl
theorem owns_keep {w w' : World} {base e size n cap g : Nat} {xs : List Value} (h : w.ownsRow base e size (.slice (some ⟨g, 0, none⟩) n cap) n xs) {B : Nat} (hb : Below B w w') (hg : g < B) : w'.ownsRow base e size (.slice (some ⟨g, 0, none⟩) n cap) n xs := by
  refine ⟨h.1, ?_⟩
  rcases h.2 with ⟨h0, _⟩ | ⟨g', cap', cur, hv, hbs, hh, rest⟩
  · cases h0
  · cases hv
    exact .inr ⟨g, cap, cur, rfl, hbs, (hb.block g hg).trans hh, rest⟩
theorem owns_form {w : World} {base e size n : Nat} {v : Value} {xs : List Value} (h : w.ownsRow base e size v n xs) : ∃ a cap, v = .slice a n cap ∧ n ≤ cap := by
  rcases h.2 with ⟨rfl, rfl⟩ | ⟨g, cap, cur, rfl, _, _, hle, _⟩
  · exact ⟨none, 0, rfl, Nat.le_refl _⟩
  · exact ⟨_, cap, rfl, hle⟩
theorem owns_pos {w : World} {base e size n : Nat} {v : Value} {xs : List Value} (h : w.ownsRow base e size v n xs) (hn : 0 < n) : ∃ g cap, v = .slice (some ⟨g, 0, none⟩) n cap ∧ base ≤ g ∧ n ≤ cap := by
  rcases h.2 with ⟨rfl, rfl⟩ | ⟨g, cap, cur, rfl, hb, _, hle, _⟩
  · omega
  · exact ⟨g, cap, rfl, hb, hle⟩
theorem row_one (w : World) (s : Nat) (hs : w.heap.size = s) (k : Int) : Row .i64 (w.alloc (.cells #[.int .i64 k] 3)) (some ⟨s, 0, none⟩) 1 1 [k] := by
  subst hs; exact row_lit .i64 w [k] 3 (by unfold maxLen; simp)
theorem size_set (w : World) (p : Addr) (v : Value) : (w.setCell p v).heap.size = w.heap.size := by simp [World.setCell]
theorem row_owned {w : World} {base n cap g : Nat} {zs : List Int} (h : w.ownsRow base 3 1 (.slice (some ⟨g, 0, none⟩) n cap) n (zs.map (Value.int .i64))) : Row .i64 w (some ⟨g, 0, none⟩) n cap zs := by
  obtain ⟨ao, c, e, hr⟩ := row_of_owns h
  simp only [Value.slice.injEq] at e
  obtain ⟨rfl, _, rfl⟩ := e
  exact hr
theorem rowAt {w w' : World} {b off n cap : Nat} {zs : List Int} (h : Row .i64 w (some ⟨b, off, none⟩) n cap zs) (hk : KO w w') (j : Nat) (hj : j < n) : w'.cell? ⟨b, off + j, none⟩ = some (.int .i64 (zs.getD j 0)) := by
  obtain ⟨b2, o2, e, hb, hc⟩ := h.cells (by omega)
  simp only [Option.some.injEq, Addr.mk.injEq, and_true] at e
  obtain ⟨rfl, rfl⟩ := e
  exact (Below.cell hk (by exact hb)).trans (hc j (by rw [h.len]; exact hj))
theorem owns_block {w : World} {base g n : Nat} {cur : Array Value} {zs : List Int} (hg : w.heap[g]? = some (.cells cur 3 (0, 0))) (hl : cur.toList = zs.map (Value.int .i64)) (hn : zs.length = n) (hm : n ≤ maxLen) (hb : base ≤ g) :
    w.ownsRow base 3 1 (.slice (some ⟨g, 0, none⟩) n n) n (zs.map (Value.int .i64)) := by
  have hs : cur.size = n := by rw [← Array.length_toList, hl, List.length_map, hn]
  refine ⟨by rw [List.length_map, hn, Nat.mul_one], .inr ⟨g, n, cur, rfl, hb, hg, Nat.le_refl _, hm, by rw [hs, Nat.mul_one], ?_⟩⟩
  rw [Nat.mul_one, hl, List.take_of_length_le (by rw [List.length_map, hn]; exact Nat.le_refl _)]
theorem ownAt {w w' : World} {base n cap g : Nat} {zs : List Int} (h : w.ownsRow base 3 1 (.slice (some ⟨g, 0, none⟩) n cap) n (zs.map (Value.int .i64))) (hk : KO w w') (j : Nat) (hj : j < n) : w'.cell? ⟨g, j, none⟩ = some (.int .i64 (zs.getD j 0)) :=
  (Below.cell hk (by exact (h.lt g rfl).2)).trans (owns_cell h j hj)
theorem getD_set' (l : List Int) (i j : Nat) (y : Int) (hi : i < l.length) : (l.set i y).getD j 0 = if i = j then y else l.getD j 0 := by
  by_cases h : i = j
  · subst h; simp [List.getD, hi]
  · rw [if_neg h]; simp [List.getD, List.getElem?_set_ne h]
theorem meas_n0 (n k : Nat) (h : k < n) : n - (intOf (.int .i64 ((k : Int) + 1))).toNat < n - (intOf (.int .i64 (k : Int))).toNat := by simp [intOf]; omega
theorem run_mid {P : Program} {t e : TypeId} {i : TypeInfo} (ht : P.underlying t = some (.slice e)) (hi : P.info? e = some i) (hc : P.cellsOf e = 1) (ao : Option Addr) (n cap j k : Nat) (hj : j ≤ k) (hk : k ≤ cap) (w : World) :
    (Instr.slice t (.slice ao n cap) (some (.int .i64 (j : Int))) (some (.int .i64 (k : Int))) none).run P w = .ok (.slice (tl ao cap j) (k - j) (cap - j)) w := by
  have e1 : (0 : Int) ≤ (j : Int) ∧ (j : Int) ≤ (k : Int) := by omega
  have e2 : (0 : Int) ≤ (k : Int) ∧ (k : Int) ≤ (cap : Int) := by omega
  simp [Instr.slice, run_underlying ht, Instr.sliceBounds, go_sem, e1, e2, run_sizeOf w hi, hc, tl]
  intro h; omega
theorem below_drewN (w : World) (k : Nat) : Below w.heap.size w (w.drewN k) := by have h := Below.refl w.heap.size w; exact ⟨h.os, h.tape, h.output, h.size, h.block⟩
theorem below_of_drewN {w w' : World} (h : ∃ k, w' = w.drewN k) : Below w.heap.size w w' := by obtain ⟨k, rfl⟩ := h; exact below_drewN w k
end Go.Proofs.YtmdmehopefgndaaGreatDoor

/- turn, starts, Starts: what a class is; like lists of ints. -/
namespace Go.Proofs.YtmdmehopefgndaaGreatDoor
open Go.RowKit
set_option linter.unusedVariables false
set_option maxHeartbeats 1000000
set_option maxRecDepth 100000
theorem st_cases (x : Int) : (Iso.st x = true ∧ (x = 20 ∨ (¬ x = 20 ∧ x = 21) ∨ (¬ x = 20 ∧ ¬ x = 21 ∧ x = 22))) ∨ (Iso.st x = false ∧ ¬ x = 20 ∧ ¬ x = 21 ∧ ¬ x = 22) := by
  unfold Iso.st
  by_cases h1 : x = 20
  · left; simp [h1]
  · by_cases h2 : x = 21
    · left; simp [h2]
    · by_cases h3 : x = 22
      · left; simp [h3]
      · right; simp [h1, h2, h3]
theorem turn_any (x : Int) (w : World) : Calls Tryz.prog 37 #[.int .i64 x] w fun e w' => e = .returned (.int .i64 (Iso.turn x)) ∧ w = w' := by
  rcases st_cases x with ⟨hs, h | ⟨h1, h⟩ | ⟨h1, h2, h⟩⟩ | ⟨hs, h1, h2, h3⟩
  · have ht : Iso.turn x = 1 := by unfold Iso.turn; rw [if_pos hs]
    rw [ht]
    clear hs ht
    go_enter Tryz.func37, Tryz.ntmps37
    go_wp2
    go_ret
    exact ⟨rfl, rfl⟩
  · have ht : Iso.turn x = 1 := by unfold Iso.turn; rw [if_pos hs]
    rw [ht]
    clear hs ht
    go_enter Tryz.func37, Tryz.ntmps37
    go_wp2
    go_ret
    exact ⟨rfl, rfl⟩
  · have ht : Iso.turn x = 1 := by unfold Iso.turn; rw [if_pos hs]
    rw [ht]
    clear hs ht
    go_enter Tryz.func37, Tryz.ntmps37
    go_wp2
    go_ret
    exact ⟨rfl, rfl⟩
  · by_cases h4 : x = 23
    · have ht : Iso.turn x = -1 := by unfold Iso.turn; rw [if_neg (by simp [hs]), if_pos h4]
      rw [ht]
      clear hs ht
      go_enter Tryz.func37, Tryz.ntmps37
      go_wp2
      go_ret
      exact ⟨rfl, rfl⟩
    · have ht : Iso.turn x = 0 := by unfold Iso.turn; rw [if_neg (by simp [hs]), if_neg h4]
      rw [ht]
      clear hs ht
      go_enter Tryz.func37, Tryz.ntmps37
      go_wp2
      go_ret
      exact ⟨rfl, rfl⟩
end Go.Proofs.YtmdmehopefgndaaGreatDoor
