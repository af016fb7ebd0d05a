/- The fewest runs of what is marked: plain mathematics. -/
import Derived.Test.YtmcbldllbnjipaaLists
namespace Go.Proofs.Ytmcbldllbnjipaa
set_option linter.unusedVariables false
namespace Pk
/-- A run begins here. -/
def bg (q : Nat → Bool) (a : Nat) : Bool := q a && (a == 0 || !q (a - 1))
theorem bg_iff {q : Nat → Bool} {a : Nat} : bg q a = true ↔ q a = true ∧ (a = 0 ∨ q (a - 1) = false) := by unfold bg; simp
/-- Where the run that goes on from b ends. -/
def enf (q : Nat → Bool) : Nat → Nat → Nat
  | 0, b => b
  | d + 1, b => if q b = true then enf q d (b + 1) else b
theorem enf_ok {q : Nat → Bool} : ∀ d b, b ≤ enf q d b ∧ enf q d b ≤ b + d ∧ (∀ k, b ≤ k → k < enf q d b → q k = true) ∧ (enf q d b < b + d → q (enf q d b) = false)
  | 0, b => ⟨Nat.le_refl _, Nat.le_refl _, fun k h1 h2 => by simp only [enf] at h2; omega, fun h => by simp only [enf] at h; omega⟩
  | d + 1, b => by
    unfold enf
    by_cases h : q b = true
    · rw [if_pos h]
      obtain ⟨h1, h2, h3, h4⟩ := enf_ok (q := q) d (b + 1)
      refine ⟨by omega, by omega, fun k g1 g2 => ?_, fun g => h4 (by omega)⟩
      by_cases e : k = b
      · subst e; exact h
      · exact h3 k (by omega) g2
    · rw [if_neg h]
      exact ⟨Nat.le_refl _, by omega, fun k g1 g2 => by omega, fun _ => by simpa using h⟩
def en (q : Nat → Bool) (m a : Nat) : Nat := enf q (m - a) a
theorem en_ok {q : Nat → Bool} {m a : Nat} (h : a < m) (hq : q a = true) : a < en q m a ∧ en q m a ≤ m ∧ (∀ k, a ≤ k → k < en q m a → q k = true) ∧ (en q m a < m → q (en q m a) = false) := by
  obtain ⟨h1, h2, h3, h4⟩ := enf_ok (q := q) (m - a) a
  have h5 : en q m a ≠ a := fun e => by
    have h6 : enf q (m - a) a = a := e
    have := h4 (by omega)
    rw [h6, hq] at this
    cases this
  have h6 : a ≤ en q m a := h1
  have h7 : en q m a ≤ a + (m - a) := h2
  refine ⟨by omega, by omega, h3, fun g => h4 ?_⟩
  have h8 : enf q (m - a) a < m := g
  omega
theorem en_eq {q : Nat → Bool} {m a b : Nat} (ha : a < m) (hab : a < b) (hb : b ≤ m) (hq : ∀ k, a ≤ k → k < b → q k = true) (he : b < m → q b = false) : en q m a = b := by
  obtain ⟨h1, h2, h3, h4⟩ := en_ok ha (hq a (Nat.le_refl _) hab)
  rcases Nat.lt_trichotomy (en q m a) b with g | g | g
  · have h5 := h4 (by omega)
    rw [hq _ (by omega) g] at h5
    cases h5
  · exact g
  · have h5 := h3 b (by omega) g
    rw [he (by omega)] at h5
    cases h5
/-- The runs that begin ahead of a. -/
def RB (q : Nat → Bool) (m a : Nat) : List (Nat × Nat) := ((List.range a).filter (bg q)).map fun x => (x, en q m x)
def RU (q : Nat → Bool) (m : Nat) : List (Nat × Nat) := RB q m m
theorem RB_in {q : Nat → Bool} {m a : Nat} (h : bg q a = true) : RB q m (a + 1) = RB q m a ++ [(a, en q m a)] := by
  unfold RB
  rw [List.range_succ, List.filter_append]
  simp [h]
theorem RB_out {q : Nat → Bool} {m a : Nat} (h : bg q a = false) : RB q m (a + 1) = RB q m a := by
  unfold RB
  rw [List.range_succ, List.filter_append]
  simp [h]
theorem RB_len (q : Nat → Bool) (m a : Nat) : (RB q m a).length ≤ a := by
  unfold RB
  rw [List.length_map]
  have := List.length_filter_le (bg q) (List.range a)
  rw [List.length_range] at this
  exact this
theorem RU_mem {q : Nat → Bool} {m : Nat} {p : Nat × Nat} : p ∈ RU q m ↔ p.1 < m ∧ bg q p.1 = true ∧ p.2 = en q m p.1 := by
  unfold RU RB
  rw [List.mem_map]
  constructor
  · rintro ⟨x, hx, rfl⟩
    obtain ⟨h1, h2⟩ := List.mem_filter.1 hx
    exact ⟨List.mem_range.1 h1, h2, rfl⟩
  · rintro ⟨h1, h2, h3⟩
    exact ⟨p.1, List.mem_filter.2 ⟨List.mem_range.2 h1, h2⟩, by rw [← h3]⟩
/-- What is known of a run. -/
theorem RU_run {q : Nat → Bool} {m : Nat} {p : Nat × Nat} (h : p ∈ RU q m) : p.1 < p.2 ∧ p.2 ≤ m ∧ (∀ k, p.1 ≤ k → k < p.2 → q k = true) ∧ (p.2 < m → q p.2 = false) := by
  obtain ⟨h1, h2, h3⟩ := RU_mem.1 h
  have h4 := en_ok h1 (bg_iff.1 h2).1
  rw [← h3] at h4
  exact h4
/-- Runs rise, and something that is not marked stands between them. -/
theorem RU_rise (q : Nat → Bool) (m : Nat) : (RU q m).Pairwise fun x y => x.2 < y.1 := by
  have h : ((List.range m).filter (bg q)).Pairwise (fun x y => x < y) := List.Pairwise.filter _ List.pairwise_lt_range
  unfold RU RB
  rw [List.pairwise_map]
  refine h.imp_of_mem ?_
  intro x y hx hy hxy
  obtain ⟨x1, x2⟩ := List.mem_filter.1 hx
  obtain ⟨y1, y2⟩ := List.mem_filter.1 hy
  have x3 := List.mem_range.1 x1
  have y3 := List.mem_range.1 y1
  obtain ⟨h1, h2, h3, h4⟩ := en_ok x3 (bg_iff.1 x2).1
  rcases (bg_iff.1 y2).2 with q0 | q0
  · omega
  · show en q m x < y
    rcases Nat.lt_or_ge (en q m x) y with g | g
    · exact g
    · have h5 := h3 (y - 1) (by omega) (by omega)
      rw [q0] at h5
      cases h5
/-- What is marked lies in a run. -/
theorem RU_cover {q : Nat → Bool} {m : Nat} : ∀ k, k < m → q k = true → ∃ p ∈ RU q m, p.1 ≤ k ∧ k < p.2
  | 0, hk, hq => by
    refine ⟨(0, en q m 0), RU_mem.2 ⟨hk, bg_iff.2 ⟨hq, .inl rfl⟩, rfl⟩, Nat.le_refl _, ?_⟩
    exact (en_ok hk hq).1
  | k + 1, hk, hq => by
    by_cases h : q k = true
    · obtain ⟨p, h1, h2, h3⟩ := RU_cover (q := q) (m := m) k (by omega) h
      obtain ⟨g1, g2, g3, g4⟩ := RU_run h1
      have h5 : k + 1 < p.2 := by
        rcases Nat.lt_or_ge (k + 1) p.2 with g | g
        · exact g
        · have e : p.2 = k + 1 := by omega
          have := g4 (by omega)
          rw [e, hq] at this
          cases this
      exact ⟨p, h1, by omega, h5⟩
    · refine ⟨(k + 1, en q m (k + 1)), RU_mem.2 ⟨hk, bg_iff.2 ⟨hq, .inr (by simpa using h)⟩, rfl⟩, Nat.le_refl _, ?_⟩
      exact (en_ok hk hq).1
theorem RU_in {q : Nat → Bool} {m k : Nat} (hk : k < m) : q k = true ↔ ∃ p ∈ RU q m, p.1 ≤ k ∧ k < p.2 := by
  constructor
  · exact RU_cover k hk
  · rintro ⟨p, h1, h2, h3⟩
    exact (RU_run h1).2.2.1 k h2 h3
/-- Whatever rises so, lies within m, and has just what is marked, is the list of runs. -/
theorem rise_eq : ∀ (P Q : List (Nat × Nat)), P.Pairwise (fun x y => x.2 < y.1) → Q.Pairwise (fun x y => x.2 < y.1) → (∀ p ∈ P, p.1 < p.2) → (∀ p ∈ Q, p.1 < p.2) → (∀ k, (∃ p ∈ P, p.1 ≤ k ∧ k < p.2) ↔ ∃ p ∈ Q, p.1 ≤ k ∧ k < p.2) → P = Q
  | [], [], _, _, _, _, _ => rfl
  | [], y :: Q, _, _, _, hy, h => by
    obtain ⟨p, hp, _⟩ := (h y.1).2 ⟨y, List.mem_cons_self, Nat.le_refl _, hy y List.mem_cons_self⟩
    cases hp
  | x :: P, [], _, _, hx, _, h => by
    obtain ⟨p, hp, _⟩ := (h x.1).1 ⟨x, List.mem_cons_self, Nat.le_refl _, hx x List.mem_cons_self⟩
    cases hp
  | x :: P, y :: Q, hP, hQ, hx, hy, h => by
    obtain ⟨hP1, hP2⟩ := List.pairwise_cons.1 hP
    obtain ⟨hQ1, hQ2⟩ := List.pairwise_cons.1 hQ
    have x0 := hx x List.mem_cons_self
    have y0 := hy y List.mem_cons_self
    have lowP : ∀ p ∈ x :: P, x.1 ≤ p.1 := fun p hp => by
      rcases List.mem_cons.1 hp with rfl | hp
      · exact Nat.le_refl _
      · have := hP1 p hp; omega
    have lowQ : ∀ p ∈ y :: Q, y.1 ≤ p.1 := fun p hp => by
      rcases List.mem_cons.1 hp with rfl | hp
      · exact Nat.le_refl _
      · have := hQ1 p hp; omega
    have e1 : x.1 = y.1 := by
      obtain ⟨p, hp, h1, h2⟩ := (h x.1).1 ⟨x, List.mem_cons_self, Nat.le_refl _, x0⟩
      obtain ⟨r, hr, g1, g2⟩ := (h y.1).2 ⟨y, List.mem_cons_self, Nat.le_refl _, y0⟩
      have := lowQ p hp
      have := lowP r hr
      omega
    have e2 : x.2 = y.2 := by
      rcases Nat.lt_trichotomy x.2 y.2 with g | g | g
      · obtain ⟨p, hp, h1, h2⟩ := (h x.2).2 ⟨y, List.mem_cons_self, by omega, g⟩
        rcases List.mem_cons.1 hp with rfl | hp
        · omega
        · have := hP1 p hp; omega
      · exact g
      · obtain ⟨p, hp, h1, h2⟩ := (h y.2).1 ⟨x, List.mem_cons_self, by omega, g⟩
        rcases List.mem_cons.1 hp with rfl | hp
        · omega
        · have := hQ1 p hp; omega
    have exy : x = y := Prod.ext e1 e2
    subst exy
    rw [rise_eq P Q hP2 hQ2 (fun p hp => hx p (List.mem_cons_of_mem _ hp)) (fun p hp => hy p (List.mem_cons_of_mem _ hp)) fun k => ?_]
    constructor
    · rintro ⟨p, hp, h1, h2⟩
      obtain ⟨r, hr, g1, g2⟩ := (h k).1 ⟨p, List.mem_cons_of_mem _ hp, h1, h2⟩
      rcases List.mem_cons.1 hr with rfl | hr
      · have := hP1 p hp; omega
      · exact ⟨r, hr, g1, g2⟩
    · rintro ⟨p, hp, h1, h2⟩
      obtain ⟨r, hr, g1, g2⟩ := (h k).2 ⟨p, List.mem_cons_of_mem _ hp, h1, h2⟩
      rcases List.mem_cons.1 hr with rfl | hr
      · have := hQ1 p hp; omega
      · exact ⟨r, hr, g1, g2⟩
theorem RU_unique {q : Nat → Bool} {m : Nat} {P : List (Nat × Nat)} (h1 : P.Pairwise fun x y => x.2 < y.1) (h2 : ∀ p ∈ P, p.1 < p.2 ∧ p.2 ≤ m) (h3 : ∀ k, k < m → (q k = true ↔ ∃ p ∈ P, p.1 ≤ k ∧ k < p.2)) : P = RU q m := by
  refine rise_eq P _ h1 (RU_rise q m) (fun p hp => (h2 p hp).1) (fun p hp => (RU_run hp).1) fun k => ?_
  by_cases hk : k < m
  · rw [← h3 k hk, RU_in hk]
  · constructor
    · rintro ⟨p, hp, g1, g2⟩
      have := (h2 p hp).2; omega
    · rintro ⟨p, hp, g1, g2⟩
      have := (RU_run hp).2.1; omega
end Pk
end Go.Proofs.Ytmcbldllbnjipaa
