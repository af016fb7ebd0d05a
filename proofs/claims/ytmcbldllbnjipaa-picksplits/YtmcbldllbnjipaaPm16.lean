/- What a range's columns have: plain mathematics. -/
import Derived.Test.YtmcbldllbnjipaaPr16
import Derived.Test.YtmcbldllbnjipaaPq16
namespace Go.Proofs.Ytmcbldllbnjipaa
set_option linter.unusedVariables false
namespace Pk
section
variable {q : Nat → Bool} {m : Nat}
theorem RU_at {k : Nat} (h : k < (RU q m).length) : (RU q m).getD k (0, 0) ∈ RU q m := by
  have : (RU q m).getD k (0, 0) = (RU q m)[k] := by simp [List.getD, h]
  rw [this]; exact List.getElem_mem h
theorem RU_next {k : Nat} (h : k + 1 < (RU q m).length) : ((RU q m).getD k (0, 0)).2 < ((RU q m).getD (k + 1) (0, 0)).1 := by
  have := List.pairwise_iff_getElem.1 (RU_rise q m) k (k + 1) (by omega) h (by omega)
  simpa [List.getD, h, show k < (RU q m).length by omega] using this
theorem AR_RU (q : Nat → Bool) (m : Nat) : AR (zi (RU q m)) (m : Int) (RU q m).length := by
  intro i hi
  have h0 := RU_run (RU_at hi)
  rw [zi_at]
  refine ⟨?_, by show (((RU q m).getD i (0, 0)).1 : Int) < (((RU q m).getD i (0, 0)).2 : Int); omega, by show (((RU q m).getD i (0, 0)).2 : Int) ≤ (m : Int); omega⟩
  cases i with
  | zero => show (0 : Int) ≤ (((RU q m).getD 0 (0, 0)).1 : Int); omega
  | succ i =>
    have := RU_next hi
    show ((zi (RU q m)).getD i (0, 0)).2 ≤ (((RU q m).getD (i + 1) (0, 0)).1 : Int)
    rw [zi_at]
    show (((RU q m).getD i (0, 0)).2 : Int) ≤ _
    omega
theorem hz_RU {j : Nat} (hj : j < m) : hz (zi (RU q m)) (RU q m).length (j : Int) = true ↔ q j = true := by
  rw [hz_iff, RU_in hj]
  constructor
  · rintro ⟨i, h1, h2, h3⟩
    rw [zi_at] at h2 h3
    have h2 : (((RU q m).getD i (0, 0)).1 : Int) ≤ (j : Int) := h2
    have h3 : (j : Int) < (((RU q m).getD i (0, 0)).2 : Int) := h3
    exact ⟨_, RU_at h1, by omega, by omega⟩
  · rintro ⟨p, h1, h2, h3⟩
    obtain ⟨i, hi, rfl⟩ := List.mem_iff_getElem.1 h1
    refine ⟨i, hi, ?_, ?_⟩
    · rw [zi_at]
      show (((RU q m).getD i (0, 0)).1 : Int) ≤ (j : Int)
      simp only [List.getD, List.getElem?_eq_getElem hi, Option.getD_some]; omega
    · rw [zi_at]
      show (j : Int) < (((RU q m).getD i (0, 0)).2 : Int)
      simp only [List.getD, List.getElem?_eq_getElem hi, Option.getD_some]; omega
end
theorem qc_iff {L : List Int} {f t : Int} {k : Nat} : qc L f t k = true ↔ f ≤ L.getD k 0 ∧ L.getD k 0 < t := by unfold qc; simp
/-- A place of the range that is seen. -/
def im (l : List Int) (f t : Int) (i : Nat) : Bool := decide (f ≤ (i : Int) ∧ (i : Int) < t ∧ 0 ≤ l.getD i 0)
theorem image {l : List Int} (hf : Od.Fo l) (f t : Int) : PL (pr (Od.ON l) (zi (RU (qc (Od.ON l) f t) (Od.ON l).length)) (zi (RU (qc (Od.ON l) f t) (Od.ON l).length)).length) l.length = PL (im l f t) l.length := by
  refine PL_same fun i hi => ?_
  rw [Bool.eq_iff_iff, pr_iff, zi_len]
  unfold im
  rw [decide_eq_true_iff]
  constructor
  · rintro ⟨j, h1, h2, h3⟩
    have h4 := qc_iff.1 ((hz_RU h1).1 h3)
    rw [h2] at h4
    rw [Od.ON_len] at h1
    rw [Od.ON_at h1] at h2
    have hm := ((Od.OD_vis hf).mem _).1 (Od.OD_in h1)
    rw [show (Od.OD l).getD j 0 = i by omega] at hm
    exact ⟨h4.1, h4.2, (Od.sn_at hm).2⟩
  · rintro ⟨h1, h2, h3⟩
    obtain ⟨k, g1, g2, _⟩ := Od.seen_col hf (Od.sn_of h3 hi)
    have g3 : (Od.ON l).getD k 0 = (i : Int) := by rw [Od.ON_at g1, g2]
    have g4 : k < (Od.ON l).length := by rw [Od.ON_len]; exact g1
    exact ⟨k, g4, g3, (hz_RU g4).2 (qc_iff.2 (by rw [g3]; exact ⟨h1, h2⟩))⟩
theorem image_QA {l : List Int} {f t : Int} {R : List (Nat × Nat)} (h : PRA l f t R 0) : QA l (zi R) (PL (im l f t) l.length) 0 := by
  rcases h with ⟨hf, _, hR, _⟩ | ⟨_, _, h0⟩ | ⟨_, _, _, h0⟩
  · refine .inr (.inr ⟨hf, ?_, ?_, rfl⟩)
    · rw [hR, zi_len]; exact AR_RU _ _
    · rw [hR]; exact (image hf f t).symm
  · cases h0
  · cases h0
theorem PL_none {p : Nat → Bool} {n : Nat} (h : ∀ i, i < n → ¬ p i = true) : PL p n = [] := by
  rw [List.eq_nil_iff_forall_not_mem]
  intro x hx
  obtain ⟨i, h1, h2, _⟩ := PL_mem.1 hx
  exact h i h1 h2
theorem PL_rest {p : Nat → Bool} {k n : Nat} (hk : k ≤ n) (h : ∀ i, k ≤ i → i < n → ¬ p i = true) : PL p n = PL p k := by
  refine rise_same _ _ (PL_rise _ _) (PL_rise _ _) fun x => ?_
  rw [PL_mem, PL_mem]
  constructor
  · rintro ⟨i, h1, h2, h3⟩
    refine ⟨i, ?_, h2, h3⟩
    rcases Nat.lt_or_ge i k with g | g
    · exact g
    · exact absurd h2 (h i g h1)
  · rintro ⟨i, h1, h2, h3⟩
    exact ⟨i, by omega, h2, h3⟩
end Pk
end Go.Proofs.Ytmcbldllbnjipaa
