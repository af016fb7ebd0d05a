/- Plain mathematics: bytes stand as their texts do. -/
import Derived.Test.YtkcalmighgdojabTrip
import Derived.Test.YtkcalmighgdojabStr
namespace Go.Proofs.Ytkcalmighgdojab
set_option linter.unusedVariables false
namespace Utf
/-- Less, compared one by one; a beginning is less than what it begins. -/
def less : List Int → List Int → Bool
  | _, [] => false
  | [], _ :: _ => true
  | x :: a, y :: b => decide (x < y) || (decide (x = y) && less a b)
theorem less_cons (x : Int) (a b : List Int) : less (x :: a) (x :: b) = less a b := by simp [less]
theorem less_lt {x y : Int} (h : x < y) (a b : List Int) : less (x :: a) (y :: b) = true := by simp [less, h]
theorem less_gt {x y : Int} (h : y < x) (a b : List Int) : less (x :: a) (y :: b) = false := by
  simp only [less, Bool.or_eq_false_iff, Bool.and_eq_false_iff, decide_eq_false_iff_not]
  exact ⟨by omega, .inl (by omega)⟩
theorem less_step {x y : Int} {a b : List Int} (h : x < y ∨ (x = y ∧ less a b = true)) : less (x :: a) (y :: b) = true := by
  rcases h with h | ⟨rfl, h⟩
  · exact less_lt h a b
  · rw [less_cons]; exact h
theorem less_antisymm : ∀ (a b : List Int), less a b = true → less b a = false
  | _, [], h => by simp [less] at h
  | [], _ :: _, _ => rfl
  | x :: a, y :: b, h => by
    simp only [less, Bool.or_eq_true, decide_eq_true_eq, Bool.and_eq_true] at h
    rcases h with h | ⟨rfl, h⟩
    · exact less_gt h b a
    · rw [less_cons]; exact less_antisymm a b h
/-- Of two scalar values the lesser one has the lesser form, whatever follows. -/
theorem form_less {x y : Int} (hx : size x ≠ 0) (hy : size y ≠ 0) (h : x < y) (r s : List Int) : less (form x ++ r) (form y ++ s) = true := by
  have cx := size_cases x
  have cy := size_cases y
  have fx : (x < 128 ∧ form x = [x]) ∨ (128 ≤ x ∧ x < 2048 ∧ form x = [192 + x / 64, 128 + x % 64]) ∨ (2048 ≤ x ∧ x < 65536 ∧ form x = [224 + x / 4096, 128 + x / 64 % 64, 128 + x % 64]) ∨ (65536 ≤ x ∧ form x = [240 + x / 262144, 128 + x / 4096 % 64, 128 + x / 64 % 64, 128 + x % 64]) := by
    unfold form; repeat' split
    all_goals simp
    all_goals omega
  have fy : (y < 128 ∧ form y = [y]) ∨ (128 ≤ y ∧ y < 2048 ∧ form y = [192 + y / 64, 128 + y % 64]) ∨ (2048 ≤ y ∧ y < 65536 ∧ form y = [224 + y / 4096, 128 + y / 64 % 64, 128 + y % 64]) ∨ (65536 ≤ y ∧ form y = [240 + y / 262144, 128 + y / 4096 % 64, 128 + y / 64 % 64, 128 + y % 64]) := by
    unfold form; repeat' split
    all_goals simp
    all_goals omega
  rcases fx with ⟨g1, ex⟩ | ⟨g1, g2, ex⟩ | ⟨g1, g2, ex⟩ | ⟨g1, ex⟩
  · rcases fy with ⟨k1, ey⟩ | ⟨k1, k2, ey⟩ | ⟨k1, k2, ey⟩ | ⟨k1, ey⟩
    all_goals (rw [ex, ey]; exact less_lt (by omega) _ _)
  · rcases fy with ⟨k1, ey⟩ | ⟨k1, k2, ey⟩ | ⟨k1, k2, ey⟩ | ⟨k1, ey⟩
    · omega
    · rw [ex, ey]
      by_cases e1 : x / 64 = y / 64
      · exact less_step (.inr ⟨by omega, less_lt (by omega) _ _⟩)
      · exact less_lt (by omega) _ _
    all_goals (rw [ex, ey]; exact less_lt (by omega) _ _)
  · rcases fy with ⟨k1, ey⟩ | ⟨k1, k2, ey⟩ | ⟨k1, k2, ey⟩ | ⟨k1, ey⟩
    · omega
    · omega
    · rw [ex, ey]
      by_cases e1 : x / 4096 = y / 4096
      · refine less_step (.inr ⟨by omega, ?_⟩)
        by_cases e2 : x / 64 % 64 = y / 64 % 64
        · exact less_step (.inr ⟨by omega, less_lt (by omega) _ _⟩)
        · exact less_lt (by omega) _ _
      · exact less_lt (by omega) _ _
    · rw [ex, ey]; exact less_lt (by omega) _ _
  · rcases fy with ⟨k1, ey⟩ | ⟨k1, k2, ey⟩ | ⟨k1, k2, ey⟩ | ⟨k1, ey⟩
    · omega
    · omega
    · omega
    · rw [ex, ey]
      by_cases e1 : x / 262144 = y / 262144
      · refine less_step (.inr ⟨by omega, ?_⟩)
        by_cases e2 : x / 4096 % 64 = y / 4096 % 64
        · refine less_step (.inr ⟨by omega, ?_⟩)
          by_cases e3 : x / 64 % 64 = y / 64 % 64
          · exact less_step (.inr ⟨by omega, less_lt (by omega) _ _⟩)
          · exact less_lt (by omega) _ _
        · exact less_lt (by omega) _ _
      · exact less_lt (by omega) _ _
theorem less_app (c : List Int) : ∀ a b : List Int, less (c ++ a) (c ++ b) = less a b := by
  induction c with
  | nil => intro a b; rfl
  | cons x c ih => intro a b; simp only [List.cons_append, less_cons, ih]
theorem form_cons (v : Int) : ∃ h t, form v = h :: t := by
  unfold form
  repeat' split
  all_goals exact ⟨_, _, rfl⟩
theorem enc_less : ∀ a b : List Int, (∀ x ∈ a, size x ≠ 0) → (∀ x ∈ b, size x ≠ 0) → less (enc a) (enc b) = less a b
  | a, [], _, _ => by rw [enc_nil]; cases a <;> (cases enc _ <;> rfl)
  | [], y :: b, _, _ => by
    obtain ⟨h, t, e⟩ := form_cons y
    rw [show enc (y :: b) = form y ++ enc b from rfl, e]; rfl
  | x :: a, y :: b, ha, hb => by
    have hx := ha x (by simp)
    have hy := hb y (by simp)
    rw [show enc (x :: a) = form x ++ enc a from rfl, show enc (y :: b) = form y ++ enc b from rfl]
    by_cases h : x < y
    · rw [form_less hx hy h, less_lt h]
    by_cases h' : y < x
    · rw [less_antisymm _ _ (form_less hy hx h' (enc b) (enc a)), less_gt h']
    obtain rfl : x = y := by omega
    rw [less_app, less_cons]
    exact enc_less a b (fun z hz => ha z (by simp [hz])) (fun z hz => hb z (by simp [hz]))
/-- Strings of bytes are compared so. -/
theorem bytes_less : ∀ a b : List Int, Bytes a → Bytes b → Op.bytesLess (a.map (fun z => UInt8.ofNat z.toNat)) (b.map (fun z => UInt8.ofNat z.toNat)) = less a b
  | a, [], _, _ => by cases a <;> rfl
  | [], _ :: _, _, _ => rfl
  | x :: a, y :: b, ha, hb => by
    have hx := ha x (by simp)
    have hy := hb y (by simp)
    have ih := bytes_less a b (fun z hz => ha z (by simp [hz])) (fun z hz => hb z (by simp [hz]))
    simp only [List.map_cons, Op.bytesLess, less, ih]
    have e1 := byte_back hx.1 hx.2
    have e2 := byte_back hy.1 hy.2
    have d1 : decide (UInt8.ofNat x.toNat < UInt8.ofNat y.toNat) = decide (x < y) := by
      rw [decide_eq_decide, UInt8.lt_iff_toNat_lt]; omega
    have d2 : (UInt8.ofNat x.toNat == UInt8.ofNat y.toNat) = decide (x = y) := by
      rw [Bool.eq_iff_iff, beq_iff_eq, decide_eq_true_eq, ← UInt8.toNat_inj]; omega
    rw [d1, d2]
theorem str_less (a b : List Int) (ha : Bytes a) (hb : Bytes b) : Op.bytesLess (str a).toList (str b).toList = less a b := by
  rw [ByteArray.toList_eq, ByteArray.toList_eq]
  have : ∀ l : List Int, (str l).data.toList = l.map (fun z => UInt8.ofNat z.toNat) := fun l => by simp [str]
  rw [this, this, bytes_less a b ha hb]
/-- The first so many are alike. -/
def Alike (a b : List Int) (k : Nat) : Prop := k ≤ a.length ∧ k ≤ b.length ∧ less a b = less (a.drop k) (b.drop k)
theorem Alike.start (a b : List Int) : Alike a b 0 := ⟨Nat.zero_le _, Nat.zero_le _, by simp⟩
theorem getD_drop (a : List Int) (k : Nat) (h : k < a.length) : a.drop k = a.getD k 0 :: a.drop (k + 1) := by
  rw [List.drop_eq_getElem_cons h]; simp [List.getD, List.getElem?_eq_getElem h]
theorem Alike.step {a b : List Int} {k : Nat} (h : Alike a b k) (ha : k < a.length) (hb : k < b.length) (he : a.getD k 0 = b.getD k 0) : Alike a b (k + 1) := by
  refine ⟨ha, hb, ?_⟩
  rw [h.2.2, getD_drop a k ha, getD_drop b k hb, he, less_cons]
theorem Alike.stop {a b : List Int} {k : Nat} (h : Alike a b k) (ha : k < a.length) (hb : k < b.length) (he : a.getD k 0 ≠ b.getD k 0) : less a b = decide (a.getD k 0 < b.getD k 0) := by
  rw [h.2.2, getD_drop a k ha, getD_drop b k hb]
  by_cases hlt : a.getD k 0 < b.getD k 0
  · rw [less_lt hlt]; simp only [hlt, decide_true]
  · rw [less_gt (by omega)]; simp only [hlt, decide_false]
theorem Alike.end {a b : List Int} {k : Nat} (h : Alike a b k) (he : k = a.length ∨ k = b.length) : less a b = decide ((a.length : Int) < (b.length : Int)) := by
  obtain ⟨h1, h2, h3⟩ := h
  rw [h3]
  by_cases hb : k = b.length
  · rw [List.drop_of_length_le (by omega : b.length ≤ k)]
    have : ¬ (a.length : Int) < (b.length : Int) := by omega
    simp only [this, decide_false]
    cases a.drop k <;> rfl
  · have ha : k = a.length := by omega
    rw [List.drop_of_length_le (by omega : a.length ≤ k), getD_drop b k (by omega)]
    have : (a.length : Int) < (b.length : Int) := by omega
    simp only [this, decide_true]
    rfl
end Utf
end Go.Proofs.Ytkcalmighgdojab
