/- Chains of runs: plain mathematics. -/
import Derived.Test.YthohbiklnknofaaRn
namespace Go.Proofs.Ythohbiklnknofaa.Rn
set_option linter.unusedVariables false
/-- From a run on, as many as c of those that follow one another. -/
def chn (f : Nat → Option Nat) : Nat → Nat → List Nat
  | 0, _ => []
  | c + 1, k => k :: (match f k with | none => [] | some j => chn f c j)
/-- The one behind c of them. -/
def aft (f : Nat → Option Nat) : Nat → Nat → Option Nat
  | 0, k => some k
  | c + 1, k => match f k with | none => none | some j => aft f c j
theorem chn_succ (f : Nat → Option Nat) (c k : Nat) : chn f (c + 1) k = k :: (match f k with | none => [] | some j => chn f c j) := rfl
theorem aft_succ (f : Nat → Option Nat) (c k : Nat) : aft f (c + 1) k = match f k with | none => none | some j => aft f c j := rfl
theorem chn_add (f : Nat → Option Nat) (b : Nat) : ∀ a k, chn f (a + b) k = chn f a k ++ (match aft f a k with | none => [] | some j => chn f b j) := by
  intro a
  induction a with
  | zero => intro k; simp [chn, aft]
  | succ a ih =>
    intro k
    rw [show a + 1 + b = a + b + 1 from by omega, chn_succ, chn_succ, aft_succ]
    cases f k with
    | none => simp
    | some j => simp [ih j]
theorem aft_add (f : Nat → Option Nat) (b : Nat) : ∀ a k, aft f (a + b) k = match aft f a k with | none => none | some j => aft f b j := by
  intro a
  induction a with
  | zero => intro k; simp [aft]
  | succ a ih =>
    intro k
    rw [show a + 1 + b = a + b + 1 from by omega, aft_succ, aft_succ]
    cases f k with
    | none => simp
    | some j => simp [ih j]
theorem chn_ne (f : Nat → Option Nat) (c k : Nat) : chn f (c + 1) k ≠ [] := by rw [chn_succ]; simp
theorem chn_len (f : Nat → Option Nat) : ∀ c k, (chn f c k).length ≤ c := by
  intro c
  induction c with
  | zero => intro k; simp [chn]
  | succ c ih =>
    intro k
    rw [chn_succ]
    cases f k with
    | none => simp
    | some j => simpa using ih j
theorem aft_lt {f : Nat → Option Nat} {N : Nat} (h : ∀ k j, f k = some j → j < N) : ∀ c k j, k < N → aft f c k = some j → j < N := by
  intro c
  induction c with
  | zero => intro k j hk h1; simp [aft] at h1; omega
  | succ c ih =>
    intro k j hk h1
    rw [aft_succ] at h1
    cases hf : f k with
    | none => rw [hf] at h1; simp at h1
    | some i => rw [hf] at h1; exact ih i j (h k i hf) h1
/-- The last one. -/
def ltc (f : Nat → Option Nat) (c k : Nat) : Nat := (chn f c k).getD ((chn f c k).length - 1) 0
theorem last_append (a b : List Nat) (h : b ≠ []) : (a ++ b).getD ((a ++ b).length - 1) 0 = b.getD (b.length - 1) 0 := by
  have := List.length_pos_iff.2 h
  rw [List.length_append, show a.length + b.length - 1 = a.length + (b.length - 1) from by omega]
  simp [List.getD, List.getElem?_append_right]
theorem ltc_none {f : Nat → Option Nat} {a b k : Nat} (h : aft f a k = none) : chn f (a + b) k = chn f a k ∧ aft f (a + b) k = none ∧ ltc f (a + b) k = ltc f a k := by
  have e1 : chn f (a + b) k = chn f a k := by rw [chn_add, h]; simp
  exact ⟨e1, by rw [aft_add, h], by unfold ltc; rw [e1]⟩
theorem ltc_some {f : Nat → Option Nat} {a b k j : Nat} (h : aft f a k = some j) (hb : 0 < b) : chn f (a + b) k = chn f a k ++ chn f b j ∧ aft f (a + b) k = aft f b j ∧ ltc f (a + b) k = ltc f b j := by
  have e1 : chn f (a + b) k = chn f a k ++ chn f b j := by rw [chn_add, h]
  obtain ⟨c, rfl⟩ : ∃ c, b = c + 1 := ⟨b - 1, by omega⟩
  exact ⟨e1, by rw [aft_add, h], by unfold ltc; rw [e1]; exact last_append _ _ (chn_ne f c j)⟩
/-- The places of runs. -/
def plc (rs : List (List Nat)) (l : List Nat) : List Nat := l.flatMap (rn rs)
theorem plc_append (rs : List (List Nat)) (a b : List Nat) : plc rs (a ++ b) = plc rs a ++ plc rs b := by simp [plc]
theorem plc_one (rs : List (List Nat)) (k : Nat) : plc rs [k] = rn rs k := by simp [plc]
theorem plc_len {rs : List (List Nat)} {M : Nat} (h : ∀ j, (rn rs j).length ≤ M) (l : List Nat) : (plc rs l).length ≤ l.length * M := by
  induction l with
  | nil => simp [plc]
  | cons a t ih =>
    rw [show a :: t = [a] ++ t from rfl, plc_append, plc_one, List.length_append, List.length_append, List.length_singleton, Nat.add_mul, Nat.one_mul]
    have := h a
    omega
end Go.Proofs.Ythohbiklnknofaa.Rn
