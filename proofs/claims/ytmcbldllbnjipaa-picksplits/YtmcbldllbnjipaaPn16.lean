/- The runs of what is marked, met from the left: plain mathematics. -/
import Derived.Test.YtmcbldllbnjipaaPk16
namespace Go.Proofs.Ytmcbldllbnjipaa
set_option linter.unusedVariables false
namespace Pk
/-- Where the run begins that column k would go on with. -/
def sb (q : Nat → Bool) : Nat → Nat
  | 0 => 0
  | k + 1 => if q k = true then sb q k else k + 1
/-- The runs that have ended ahead of column k. -/
def yl (q : Nat → Bool) : Nat → List (Nat × Nat)
  | 0 => []
  | k + 1 => if q k = true then yl q k else if sb q k < k then yl q k ++ [(sb q k, k)] else yl q k
section
variable {q : Nat → Bool}
theorem sb_in {k : Nat} (h : q k = true) : sb q (k + 1) = sb q k := by rw [sb, if_pos h]
theorem sb_out {k : Nat} (h : ¬ q k = true) : sb q (k + 1) = k + 1 := by rw [sb, if_neg h]
theorem yl_in {k : Nat} (h : q k = true) : yl q (k + 1) = yl q k := by rw [yl, if_pos h]
theorem yl_put {k : Nat} (h : ¬ q k = true) (h2 : sb q k < k) : yl q (k + 1) = yl q k ++ [(sb q k, k)] := by rw [yl, if_neg h, if_pos h2]
theorem yl_same {k : Nat} (h : ¬ q k = true) (h2 : ¬ sb q k < k) : yl q (k + 1) = yl q k := by rw [yl, if_neg h, if_neg h2]
theorem sb_le : ∀ k, sb q k ≤ k
  | 0 => Nat.le_refl _
  | k + 1 => by have := sb_le k; rw [sb]; split <;> omega
theorem sb_all : ∀ k j, sb q k ≤ j → j < k → q j = true
  | 0, j, _, h => absurd h (by omega)
  | k + 1, j, h1, h2 => by
    by_cases h : q k = true
    · rw [sb_in h] at h1
      by_cases e : j = k
      · rw [e]; exact h
      · exact sb_all k j h1 (by omega)
    · rw [sb_out h] at h1; omega
theorem yl_run : ∀ k p, p ∈ yl q k → p.1 < p.2 ∧ p.2 + 1 ≤ sb q k
  | 0, p, h => by simp [yl] at h
  | k + 1, p, h => by
    by_cases hq : q k = true
    · rw [yl_in hq] at h; rw [sb_in hq]; exact yl_run k p h
    · rw [sb_out hq]
      have h0 := sb_le (q := q) k
      by_cases h2 : sb q k < k
      · rw [yl_put hq h2] at h
        rcases List.mem_append.1 h with h | h
        · have := yl_run k p h; omega
        · rw [List.mem_singleton] at h; subst h; exact ⟨h2, Nat.le_refl _⟩
      · rw [yl_same hq h2] at h
        have := yl_run k p h; omega
theorem yl_rise : ∀ k, (yl q k).Pairwise fun x y => x.2 < y.1
  | 0 => by simp [yl]
  | k + 1 => by
    by_cases hq : q k = true
    · rw [yl_in hq]; exact yl_rise k
    · by_cases h2 : sb q k < k
      · rw [yl_put hq h2, List.pairwise_append]
        refine ⟨yl_rise k, by simp, fun x hx y hy => ?_⟩
        rw [List.mem_singleton] at hy
        subst hy
        have := yl_run k x hx
        show x.2 < sb q k
        omega
      · rw [yl_same hq h2]; exact yl_rise k
theorem yl_has : ∀ k j, j < k → (q j = true ↔ (∃ p ∈ yl q k, p.1 ≤ j ∧ j < p.2) ∨ sb q k ≤ j)
  | 0, j, h => absurd h (by omega)
  | k + 1, j, h => by
    by_cases hq : q k = true
    · rw [yl_in hq, sb_in hq]
      by_cases e : j = k
      · subst e; exact ⟨fun _ => .inr (sb_le j), fun _ => hq⟩
      · exact yl_has k j (by omega)
    · rw [sb_out hq]
      by_cases e : j = k
      · subst e
        constructor
        · exact fun h => absurd h hq
        · rintro (⟨p, hp, h1, h2⟩ | h)
          · have h3 : p.2 ≤ j := by
              by_cases hc : sb q j < j
              · rw [yl_put hq hc] at hp
                rcases List.mem_append.1 hp with hp | hp
                · have := yl_run j p hp; have := sb_le (q := q) j; omega
                · rw [List.mem_singleton] at hp; subst hp; exact Nat.le_refl _
              · rw [yl_same hq hc] at hp
                have := yl_run j p hp; have := sb_le (q := q) j; omega
            omega
          · omega
      · have hk := yl_has k j (by omega)
        by_cases h2 : sb q k < k
        · rw [yl_put hq h2, hk]
          constructor
          · rintro (⟨p, hp, h3, h4⟩ | h3)
            · exact .inl ⟨p, List.mem_append_left _ hp, h3, h4⟩
            · exact .inl ⟨_, List.mem_append_right _ List.mem_cons_self, h3, by show j < k; omega⟩
          · rintro (⟨p, hp, h3, h4⟩ | h3)
            · rcases List.mem_append.1 hp with hp | hp
              · exact .inl ⟨p, hp, h3, h4⟩
              · rw [List.mem_singleton] at hp; subst hp; exact .inr h3
            · omega
        · rw [yl_same hq h2, hk]
          constructor
          · rintro (h3 | h3)
            · exact .inl h3
            · have := sb_le (q := q) k; omega
          · rintro (h3 | h3)
            · exact .inl h3
            · omega
theorem yl_prefix (k : Nat) : ∀ d, yl q k <+: yl q (k + d)
  | 0 => List.prefix_refl _
  | d + 1 => by
    refine List.IsPrefix.trans (yl_prefix k d) ?_
    rw [show k + (d + 1) = (k + d) + 1 from rfl, yl]
    split
    · exact List.prefix_refl _
    · split
      · exact List.prefix_append _ _
      · exact List.prefix_refl _
/-- All runs: the last one may end with the columns. -/
theorem yl_end {m : Nat} : RU q m = if sb q m < m then yl q m ++ [(sb q m, m)] else yl q m := by
  symm
  by_cases h : sb q m < m
  · rw [if_pos h]
    refine RU_unique ?_ ?_ ?_
    · rw [List.pairwise_append]
      refine ⟨yl_rise m, by simp, fun x hx y hy => ?_⟩
      rw [List.mem_singleton] at hy
      subst hy
      have := yl_run m x hx
      show x.2 < sb q m
      omega
    · intro p hp
      rcases List.mem_append.1 hp with hp | hp
      · have := yl_run m p hp; have := sb_le (q := q) m; omega
      · rw [List.mem_singleton] at hp; subst hp; exact ⟨h, Nat.le_refl _⟩
    · intro k hk
      rw [yl_has m k hk]
      constructor
      · rintro (⟨p, hp, h3, h4⟩ | h3)
        · exact ⟨p, List.mem_append_left _ hp, h3, h4⟩
        · exact ⟨_, List.mem_append_right _ List.mem_cons_self, h3, hk⟩
      · rintro ⟨p, hp, h3, h4⟩
        rcases List.mem_append.1 hp with hp | hp
        · exact .inl ⟨p, hp, h3, h4⟩
        · rw [List.mem_singleton] at hp; subst hp; exact .inr h3
  · rw [if_neg h]
    refine RU_unique (yl_rise m) ?_ ?_
    · intro p hp
      have := yl_run m p hp; have := sb_le (q := q) m; omega
    · intro k hk
      rw [yl_has m k hk]
      constructor
      · rintro (h3 | h3)
        · exact h3
        · omega
      · exact .inl
theorem yl_all {m k : Nat} (h : k ≤ m) : yl q k <+: RU q m := by
  have h1 := yl_prefix (q := q) k (m - k)
  rw [Nat.add_sub_cancel' h] at h1
  refine List.IsPrefix.trans h1 ?_
  rw [yl_end]
  split
  · exact List.prefix_append _ _
  · exact List.prefix_refl _
/-- There are not many: of each two columns one at most begins a run. -/
theorem yl_len : ∀ k, 2 * (yl q k).length ≤ sb q k
  | 0 => Nat.le_refl _
  | k + 1 => by
    have h0 := yl_len k
    have h1 := sb_le (q := q) k
    by_cases hq : q k = true
    · rw [yl_in hq, sb_in hq]; exact h0
    · rw [sb_out hq]
      by_cases h2 : sb q k < k
      · rw [yl_put hq h2, List.length_append]; simp; omega
      · rw [yl_same hq h2]; omega
theorem RU_len {m : Nat} : 2 * (RU q m).length ≤ m + 1 := by
  have h0 := yl_len (q := q) m
  have h1 := sb_le (q := q) m
  rw [yl_end]
  split
  · rw [List.length_append]; simp; omega
  · omega
end
end Pk
end Go.Proofs.Ytmcbldllbnjipaa
