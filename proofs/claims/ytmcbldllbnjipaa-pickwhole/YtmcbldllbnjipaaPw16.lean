/- All places, none, and lines of one level: plain mathematics. -/
import Derived.Test.YtmcbldllbnjipaaPm16
namespace Go.Proofs.Ytmcbldllbnjipaa
set_option linter.unusedVariables false
set_option maxRecDepth 10000
namespace Pk
section
variable {q : Nat → Bool} {m : Nat}
theorem RU_none (h : ∀ k, k < m → ¬ q k = true) : RU q m = [] := by
  symm
  refine RU_unique List.Pairwise.nil (fun p hp => by cases hp) fun k hk => ?_
  constructor
  · exact fun g => absurd g (h k hk)
  · rintro ⟨p, hp, _⟩; cases hp
theorem RU_whole (hm : 0 < m) (h : ∀ k, k < m → q k = true) : RU q m = [(0, m)] := by
  symm
  refine RU_unique (by simp) (fun p hp => ?_) fun k hk => ?_
  · rw [List.mem_singleton] at hp; subst hp; exact ⟨hm, Nat.le_refl _⟩
  · exact ⟨fun _ => ⟨(0, m), List.mem_singleton.2 rfl, Nat.zero_le _, hk⟩, fun _ => h k hk⟩
/-- What is marked without a gap is one run at most. -/
theorem RU_one (h : ∀ i j k, i < j → j < k → k < m → q i = true → q k = true → q j = true) : (RU q m).length ≤ 1 := by
  rcases Nat.lt_or_ge 1 (RU q m).length with g | g
  · have h0 := RU_run (RU_at (q := q) (m := m) (k := 0) (by omega))
    have h1 := RU_run (RU_at (q := q) (m := m) (k := 1) (by omega))
    have h2 := RU_next (q := q) (m := m) (k := 0) (by omega)
    simp only [Nat.zero_add] at h2
    have h3 := h0.2.2.2 (by omega)
    have h4 := h0.2.2.1 _ (Nat.le_refl _) h0.1
    have h5 := h1.2.2.1 _ (Nat.le_refl _) h1.1
    have h6 := h _ _ _ h0.1 h2 (by omega) h4 h5
    rw [h3] at h6
    cases h6
  · exact g
end
theorem ON_range {l : List Int} (hf : Od.Fo l) {k : Nat} (h : k < (Od.ON l).length) : 0 ≤ (Od.ON l).getD k 0 ∧ (Od.ON l).getD k 0 < (l.length : Int) := (Od.ON_orderly hf).range k h
theorem all_runs {l : List Int} (hf : Od.Fo l) : RU (qc (Od.ON l) 0 (l.length : Int)) (Od.ON l).length = if (Od.ON l).length = 0 then [] else [(0, (Od.ON l).length)] := by
  by_cases h : (Od.ON l).length = 0
  · rw [if_pos h]
    exact RU_none fun k hk => by omega
  · rw [if_neg h]
    exact RU_whole (by omega) fun k hk => qc_iff.2 (ON_range hf hk)
theorem no_runs (L : List Int) (k : Int) (m : Nat) : RU (qc L k k) m = [] := RU_none fun j hj h => by have := qc_iff.1 h; omega
theorem vis_one {l : List Int} {v : Int} (hv : ∀ i, i < l.length → 0 ≤ l.getD i 0 → l.getD i 0 = v) {P : List Nat} (hP : Od.Vis l P) {i j : Nat} (hij : i < j) (hj : j < P.length) : (v % 2 = 0 → P.getD i 0 < P.getD j 0) ∧ (¬ v % 2 = 0 → P.getD j 0 < P.getD i 0) := by
  have hi : i < P.length := by omega
  have e1 : P.getD i 0 = P[i] := by simp [List.getD, hi]
  have e2 : P.getD j 0 = P[j] := by simp [List.getD, hj]
  have h1 := List.pairwise_iff_getElem.1 hP.pw i j hi hj hij
  have s1 := (hP.mem P[i]).1 (List.getElem_mem hi)
  have s2 := (hP.mem P[j]).1 (List.getElem_mem hj)
  obtain ⟨z, hz, hz0, e⟩ := Od.le_is (Od.sn_at s1).2 (Od.sn_at s2).2
  have g1 := (Od.sn_at s1).1
  have g2 := (Od.sn_at s2).1
  have e3 := hv z (by omega) hz0
  unfold Od.Lf at h1
  rw [e, e3] at h1
  rw [e1, e2]
  constructor
  · intro he; rw [if_pos he] at h1; exact h1
  · intro he; rw [if_neg he] at h1; exact h1
/-- Lines of one level rise or fall. -/
theorem one_way {l : List Int} (hf : Od.Fo l) {v : Int} (hv : ∀ i, i < l.length → 0 ≤ l.getD i 0 → l.getD i 0 = v) : (∀ i j, i < j → j < (Od.ON l).length → (Od.ON l).getD i 0 < (Od.ON l).getD j 0) ∨ (∀ i j, i < j → j < (Od.ON l).length → (Od.ON l).getD j 0 < (Od.ON l).getD i 0) := by
  by_cases he : v % 2 = 0
  · refine .inl fun i j hij hj => ?_
    rw [Od.ON_len] at hj
    have := (vis_one hv (Od.OD_vis hf) hij hj).1 he
    rw [Od.ON_at (k := i) (by omega), Od.ON_at hj]
    omega
  · refine .inr fun i j hij hj => ?_
    rw [Od.ON_len] at hj
    have := (vis_one hv (Od.OD_vis hf) hij hj).2 he
    rw [Od.ON_at (k := i) (by omega), Od.ON_at hj]
    omega
theorem flat_runs {l : List Int} (hf : Od.Fo l) {v : Int} (hv : ∀ i, i < l.length → 0 ≤ l.getD i 0 → l.getD i 0 = v) (f t : Int) : (RU (qc (Od.ON l) f t) (Od.ON l).length).length ≤ 1 := by
  refine RU_one fun i j k hij hjk hk h1 h2 => ?_
  rw [qc_iff] at *
  rcases one_way hf hv with h | h
  · have := h i j hij (by omega)
    have := h j k hjk hk
    omega
  · have := h i j hij (by omega)
    have := h j k hjk hk
    omega
/-- The level met last among the first k that are seen; -1, if there was none. -/
def lm (l : List Int) : Nat → Int
  | 0 => -1
  | k + 1 => if 0 ≤ l.getD k 0 then l.getD k 0 else lm l k
/-- Have all of the first k that are seen one level? -/
def fm (l : List Int) : Nat → Bool
  | 0 => true
  | k + 1 => if 0 ≤ l.getD k 0 then fm l k && (decide (lm l k < 0) || l.getD k 0 == lm l k) else fm l k
theorem lm_seen {l : List Int} {k : Nat} (h : 0 ≤ l.getD k 0) : lm l (k + 1) = l.getD k 0 := by rw [lm, if_pos h]
theorem lm_not {l : List Int} {k : Nat} (h : ¬ 0 ≤ l.getD k 0) : lm l (k + 1) = lm l k := by rw [lm, if_neg h]
theorem fm_seen {l : List Int} {k : Nat} (h : 0 ≤ l.getD k 0) : fm l (k + 1) = (fm l k && (decide (lm l k < 0) || l.getD k 0 == lm l k)) := by rw [fm, if_pos h]
theorem fm_not {l : List Int} {k : Nat} (h : ¬ 0 ≤ l.getD k 0) : fm l (k + 1) = fm l k := by rw [fm, if_neg h]
theorem lm_neg {l : List Int} : ∀ k, lm l k < 0 → ∀ i, i < k → ¬ 0 ≤ l.getD i 0
  | 0, _, i, hi => absurd hi (by omega)
  | k + 1, h, i, hi => by
    by_cases h1 : 0 ≤ l.getD k 0
    · rw [lm_seen h1] at h; omega
    · rw [lm_not h1] at h
      by_cases e : i = k
      · rw [e]; exact h1
      · exact lm_neg k h i (by omega)
theorem fm_all {l : List Int} : ∀ k, fm l k = true → ∀ i, i < k → 0 ≤ l.getD i 0 → l.getD i 0 = lm l k
  | 0, _, i, hi, _ => absurd hi (by omega)
  | k + 1, h, i, hi, h0 => by
    by_cases h1 : 0 ≤ l.getD k 0
    · rw [fm_seen h1, Bool.and_eq_true, Bool.or_eq_true, decide_eq_true_iff, beq_iff_eq] at h
      rw [lm_seen h1]
      by_cases e : i = k
      · rw [e]
      · rcases h.2 with g | g
        · exact absurd h0 (lm_neg k g i (by omega))
        · rw [g]; exact fm_all k h.1 i (by omega) h0
    · rw [fm_not h1] at h
      rw [lm_not h1]
      by_cases e : i = k
      · rw [e] at h0; exact absurd h0 h1
      · exact fm_all k h i (by omega) h0
end Pk
end Go.Proofs.Ytmcbldllbnjipaa
