/- Plain mathematics: so many opening brackets, and as many closing ones; one pair about whatever is no bracket. No Go in sight. -/
import Derived.Test.YtkkmifpdhcdkpaaDoorBm
set_option linter.unusedVariables false
namespace Go.Proofs.YtkkmifpdhcdkpaaDoor
namespace Br
def dn (k : Nat) : List Nat := (List.range k).reverse
theorem dn_succ (k : Nat) : dn (k + 1) = k :: dn k := by unfold dn; rw [List.range_succ, List.reverse_append]; rfl
theorem dn_len (k : Nat) : (dn k).length = k := by simp [dn]
section
variable {kd : Nat → Int} {mt : Nat → Nat → Bool} {n : Nat}
theorem deep1 (h1 : ∀ i, i < n → kd i = 1) : ∀ k, k ≤ n → k ≤ 63 → at' kd mt k = ⟨false, dn k, []⟩
  | 0, _, _ => rfl
  | k + 1, hk, h6 => by
    rw [step_open (deep1 h1 k (by omega) (by omega)) (h1 k (by omega)) (by rw [dn_len]; omega), dn_succ]
def dps (n j : Nat) : List (Nat × Nat) := (List.range j).map fun q => (n - 1 - q, n + q)
theorem deep2 (h1 : ∀ i, i < n → kd i = 1) (h2 : ∀ i, n ≤ i → i < 2 * n → kd i = 2) (hm : ∀ x i, x < n → n ≤ i → i < 2 * n → mt x i = true) (h6 : n ≤ 63) : ∀ j, j ≤ n → at' kd mt (n + j) = ⟨false, dn (n - j), dps n j⟩
  | 0, _ => by rw [Nat.add_zero, Nat.sub_zero]; exact deep1 h1 n (Nat.le_refl _) h6
  | j + 1, hj => by
    have ih := deep2 h1 h2 hm h6 j (by omega)
    have e : n - j = (n - (j + 1)) + 1 := by omega
    have hf : fd mt (n + j) (dn (n - j)) = (n - (j + 1)) :: dn (n - (j + 1)) := by
      rw [e, dn_succ, fd, if_pos (hm _ _ (by omega) (by omega) (by omega))]
    rw [← Nat.add_assoc, step_some ih (h2 _ (by omega) (by omega)) hf]
    congr 1
    unfold dps
    rw [List.range_succ, List.map_append]
    congr 2
    simp only [Prod.mk.injEq, and_true]
    omega
theorem deepF (h1 : ∀ i, i < n → kd i = 1) (h2 : ∀ i, n ≤ i → i < 2 * n → kd i = 2) (hm : ∀ x i, x < n → n ≤ i → i < 2 * n → mt x i = true) (h6 : n ≤ 63) : F kd mt (2 * n) = dps n n := by
  unfold F
  rw [show 2 * n = n + n from by omega, deep2 h1 h2 hm h6 n (Nat.le_refl _)]
theorem deepP (h1 : ∀ i, i < n → kd i = 1) (h2 : ∀ i, n ≤ i → i < 2 * n → kd i = 2) (hm : ∀ x i, x < n → n ≤ i → i < 2 * n → mt x i = true) (h6 : n ≤ 63) : PS kd mt (2 * n) = (List.range n).map fun i => (i, 2 * n - 1 - i) := by
  refine (PS_eq ?_ ?_).symm
  · rw [deepF h1 h2 hm h6]
    have e : (dps n n).reverse = (List.range n).map fun i => (i, 2 * n - 1 - i) := by
      refine List.ext_getElem (by simp [dps]) fun i q1 q2 => ?_
      simp [dps] at q1
      simp only [dps, List.getElem_reverse, List.getElem_map, List.getElem_range, List.length_map, List.length_range, Prod.mk.injEq]
      omega
    rw [← e]
    exact List.reverse_perm _
  · rw [List.pairwise_iff_getElem]
    intro i j hi hj hij
    simp only [List.getElem_map, List.getElem_range]
    omega
theorem deep0 (h1 : ∀ i, i < n → kd i = 1) (h6 : 63 < n) : PS kd mt (2 * n) = [] := by
  have hF : F kd mt (2 * n) = [] := F_full (deep1 h1 63 (by omega) (Nat.le_refl _)) (h1 63 h6) (dn_len 63) (by omega)
  exact List.length_eq_zero_iff.1 (by rw [PS_len, hF]; rfl)
/-- One pair about what is no bracket. -/
theorem onlyP {m : Nat} (h1 : kd 0 = 1) (h0 : ∀ i, 0 < i → i ≤ m → kd i = 0) (h2 : kd (m + 1) = 2) (hm : mt 0 (m + 1) = true) : PS kd mt (m + 2) = [(0, m + 1)] := by
  have hk : ∀ k, k ≤ m → at' kd mt (k + 1) = ⟨false, [0], []⟩ := by
    intro k
    induction k with
    | zero => intro _; exact step_open (wt := []) rfl h1 (by decide)
    | succ k ih => intro hk; exact step_skip (ih (by omega)) (by rw [h0 _ (by omega) hk]; decide) (by rw [h0 _ (by omega) hk]; decide)
  have hF : F kd mt (m + 2) = [(0, m + 1)] := by
    unfold F
    rw [step_some (hk m (Nat.le_refl _)) h2 (x := 0) (r := []) (by rw [fd, if_pos hm])]
    rfl
  refine (PS_eq (by rw [hF]) ?_).symm
  simp
end
end Br
end Go.Proofs.YtkkmifpdhcdkpaaDoor
