/- Plain mathematics of strict UTF-8: sizes and forms of scalar values. No Go in sight. -/
import Derived.RowKit
namespace Go.Proofs.Ytkcalmighgdojab
namespace Utf
def size (v : Int) : Int :=
  if v < 0 then 0 else if v < 128 then 1 else if v < 2048 then 2 else if 55296 ≤ v ∧ v ≤ 57343 then 0 else if v < 65536 then 3 else if v ≤ 1114111 then 4 else 0
def form (v : Int) : List Int :=
  if v < 128 then [v] else if v < 2048 then [192 + v / 64, 128 + v % 64] else if v < 65536 then [224 + v / 4096, 128 + v / 64 % 64, 128 + v % 64]
  else [240 + v / 262144, 128 + v / 4096 % 64, 128 + v / 64 % 64, 128 + v % 64]
/-- What a first byte holds. -/
def first (c : Int) : Int × Int :=
  if c < 128 then (c, 1) else if c < 192 then (0, 0) else if c < 224 then (c - 192, 2) else if c < 240 then (c - 224, 3) else if c < 248 then (c - 240, 4) else (0, 0)
theorem size_bounds (v : Int) : 0 ≤ size v ∧ size v ≤ 4 := by unfold size; repeat' split
                                                              all_goals omega
theorem size_eq (v s : Int) (h : (v < 0 ∧ s = 0) ∨ (0 ≤ v ∧ v < 128 ∧ s = 1) ∨ (128 ≤ v ∧ v < 2048 ∧ s = 2) ∨ (2048 ≤ v ∧ v < 55296 ∧ s = 3) ∨ (55296 ≤ v ∧ v ≤ 57343 ∧ s = 0) ∨ (57343 < v ∧ v < 65536 ∧ s = 3) ∨ (65536 ≤ v ∧ v ≤ 1114111 ∧ s = 4) ∨ (1114111 < v ∧ s = 0)) : size v = s := by
  unfold size; repeat' split
  all_goals omega
theorem size_cases (v : Int) : (v < 0 ∧ size v = 0) ∨ (0 ≤ v ∧ v < 128 ∧ size v = 1) ∨ (128 ≤ v ∧ v < 2048 ∧ size v = 2) ∨ (2048 ≤ v ∧ v < 55296 ∧ size v = 3) ∨ (55296 ≤ v ∧ v ≤ 57343 ∧ size v = 0) ∨ (57343 < v ∧ v < 65536 ∧ size v = 3) ∨ (65536 ≤ v ∧ v ≤ 1114111 ∧ size v = 4) ∨ (1114111 < v ∧ size v = 0) := by
  unfold size; repeat' split
  all_goals omega
theorem first_cases (c : Int) (h0 : 0 ≤ c) (h1 : c ≤ 255) : ((first c).1 = c ∧ (first c).2 = 1 ∧ c < 128) ∨ (first c).2 = 0 ∨ (2 ≤ (first c).2 ∧ (first c).2 ≤ 4 ∧ 0 ≤ (first c).1 ∧ (first c).1 < 32) := by
  unfold first; repeat' split
  all_goals simp
  all_goals omega
/-- The bytes behind the first one. -/
def conts (r : Int) : List Int → Option Int
  | [] => some r
  | c :: cs => if c < 128 ∨ 191 < c then none else conts (r * 64 + (c - 128)) cs
/-- The form at the front of bytes: its value and its size; 0, 0: there is none. -/
def read : List Int → Int × Int
  | [] => (0, 0)
  | c :: cs => if (first c).2 = 0 ∨ (cs.length : Int) + 1 < (first c).2 then (0, 0) else
    match conts (first c).1 (cs.take ((first c).2.toNat - 1)) with
    | none => (0, 0)
    | some v => if size v = (first c).2 then (v, (first c).2) else (0, 0)
def Bd (k : Nat) (v : Int) : Prop := 0 ≤ v ∧ v < 32 * 64 ^ k
theorem Bd_le {k : Nat} {v : Int} (h : Bd k v) (hk : k ≤ 3) : 0 ≤ v ∧ v ≤ 8388607 := by
  obtain ⟨h0, h1⟩ := h
  have : k = 0 ∨ k = 1 ∨ k = 2 ∨ k = 3 := by omega
  rcases this with rfl | rfl | rfl | rfl <;> simp at h1 <;> omega
theorem Bd_step {k : Nat} {v d : Int} (h : Bd k v) (h0 : 0 ≤ d) (h1 : d ≤ 63) : Bd (k + 1) (v * 64 + d) := by
  obtain ⟨a, b⟩ := h
  refine ⟨by omega, ?_⟩
  rw [Int.pow_succ]
  generalize (64 : Int) ^ k = X at b
  omega
theorem conts_step {r v : Int} {T : List Int} {k : Nat} (h : conts r T = conts v (T.drop k)) (hk : k < T.length) (h1 : ¬ (T.getD k 0 < 128 ∨ 191 < T.getD k 0)) :
    conts r T = conts (v * 64 + (T.getD k 0 - 128)) (T.drop (k + 1)) := by
  rw [h, List.drop_eq_getElem_cons hk]
  have e : T.getD k 0 = T[k] := by simp [List.getD, List.getElem?_eq_getElem hk]
  rw [e] at h1 ⊢
  simp only [conts, if_neg h1]
theorem conts_stop {r v : Int} {T : List Int} {k : Nat} (h : conts r T = conts v (T.drop k)) (hk : k < T.length) (h1 : T.getD k 0 < 128 ∨ 191 < T.getD k 0) : conts r T = none := by
  rw [h, List.drop_eq_getElem_cons hk]
  have e : T.getD k 0 = T[k] := by simp [List.getD, List.getElem?_eq_getElem hk]
  rw [e] at h1
  simp only [conts, if_pos h1]
theorem conts_end {r v : Int} {T : List Int} {k : Nat} (h : conts r T = conts v (T.drop k)) (hk : T.length ≤ k) : conts r T = some v := by
  rw [h, List.drop_of_length_le hk]; rfl
theorem read_short {c : Int} {cs : List Int} (h : (first c).2 = 0 ∨ (cs.length : Int) + 1 < (first c).2) : read (c :: cs) = (0, 0) := by simp only [read, if_pos h]
theorem read_none {c : Int} {cs : List Int} (h : conts (first c).1 (cs.take ((first c).2.toNat - 1)) = none) : read (c :: cs) = (0, 0) := by
  simp only [read, h]; split <;> rfl
theorem read_odd {c v : Int} {cs : List Int} (h : conts (first c).1 (cs.take ((first c).2.toNat - 1)) = some v) (hs : size v ≠ (first c).2) : read (c :: cs) = (0, 0) := by
  simp only [read, h, if_neg hs]; split <;> rfl
theorem read_some {c v : Int} {cs : List Int} (h0 : ¬ ((first c).2 = 0 ∨ (cs.length : Int) + 1 < (first c).2)) (h : conts (first c).1 (cs.take ((first c).2.toNat - 1)) = some v) (hs : size v = (first c).2) : read (c :: cs) = (v, (first c).2) := by
  simp only [read, h, if_pos hs, if_neg h0]
theorem getD_take {T : List Int} {n k : Nat} (h : k < n) : (T.take n).getD k 0 = T.getD k 0 := by
  simp [List.getD, h]
theorem conts_nonneg (T : List Int) : ∀ r v, 0 ≤ r → conts r T = some v → 0 ≤ v := by
  induction T with
  | nil => intro r v hr h; simp [conts] at h; omega
  | cons c cs ih =>
    intro r v hr h
    simp only [conts] at h
    split at h
    · simp at h
    · exact ih _ _ (by omega) h
theorem read_bounds (xs : List Int) : 0 ≤ (read xs).2 ∧ (read xs).2 ≤ 4 ∧ (read xs).2 ≤ xs.length ∧ size (read xs).1 = (if (read xs).2 = 0 then 1 else (read xs).2) := by
  cases xs with
  | nil => simp [read, size]
  | cons c cs =>
    have z : 0 ≤ ((0, 0) : Int × Int).2 ∧ ((0, 0) : Int × Int).2 ≤ 4 ∧ ((0, 0) : Int × Int).2 ≤ ((c :: cs).length : Int) ∧ size ((0, 0) : Int × Int).1 = (if ((0, 0) : Int × Int).2 = 0 then 1 else ((0, 0) : Int × Int).2) := by
      simp [size]; omega
    by_cases h0 : (first c).2 = 0 ∨ (cs.length : Int) + 1 < (first c).2
    · rw [read_short h0]; exact z
    cases hc : conts (first c).1 (cs.take ((first c).2.toNat - 1)) with
    | none => rw [read_none hc]; exact z
    | some v =>
      by_cases hs : size v = (first c).2
      · rw [read_some h0 hc hs]
        have := size_bounds v
        simp only [List.length_cons]
        refine ⟨by omega, by omega, by omega, ?_⟩
        rw [if_neg (by omega), hs]
      · rw [read_odd hc hs]; exact z
/-- The scalar values at the front of bytes, and where they end. -/
def decN : Nat → List Int → List Int × Nat
  | 0, _ => ([], 0)
  | n + 1, xs => if (read xs).2 = 0 then ([], 0) else ((read xs).1 :: (decN n (xs.drop (read xs).2.toNat)).1, (read xs).2.toNat + (decN n (xs.drop (read xs).2.toNat)).2)
theorem decN_fuel : ∀ (n m : Nat) (xs : List Int), xs.length ≤ n → xs.length ≤ m → decN n xs = decN m xs := by
  have z : ∀ m, decN m [] = ([], 0) := by intro m; cases m <;> simp [decN, read]
  intro n
  induction n with
  | zero => intro m xs h _; obtain rfl : xs = [] := List.length_eq_zero_iff.1 (by omega); rw [z, z]
  | succ n ih =>
    intro m xs h h'
    cases m with
    | zero => obtain rfl : xs = [] := List.length_eq_zero_iff.1 (by omega); rw [z, z]
    | succ m =>
      have := read_bounds xs
      simp only [decN]
      split
      · rfl
      · rw [ih m (xs.drop (read xs).2.toNat) (by simp; omega) (by simp; omega)]
def dec (xs : List Int) : List Int × Nat := decN xs.length xs
theorem dec_nil : dec [] = ([], 0) := rfl
theorem dec_stop {xs : List Int} (h : (read xs).2 = 0) : dec xs = ([], 0) := by
  unfold dec
  cases xs with
  | nil => rfl
  | cons c cs => simp only [List.length_cons, decN, if_pos h]
theorem dec_step {xs : List Int} (h : (read xs).2 ≠ 0) : dec xs = ((read xs).1 :: (dec (xs.drop (read xs).2.toNat)).1, (read xs).2.toNat + (dec (xs.drop (read xs).2.toNat)).2) := by
  have hb := read_bounds xs
  unfold dec
  cases xs with
  | nil => simp [read] at h
  | cons c cs =>
    simp only [List.length_cons, decN, if_neg h]
    simp only [List.length_cons] at hb
    rw [decN_fuel cs.length ((c :: cs).drop (read (c :: cs)).2.toNat).length _ (by simp; omega) (Nat.le_refl _)]
theorem dec_le : ∀ (n : Nat) (xs : List Int), xs.length ≤ n → (dec xs).2 ≤ xs.length ∧ (dec xs).1.length ≤ (dec xs).2 := by
  intro n
  induction n with
  | zero => intro xs h; obtain rfl : xs = [] := List.length_eq_zero_iff.1 (by omega); simp [dec_nil]
  | succ n ih =>
    intro xs h
    have hb := read_bounds xs
    by_cases h0 : (read xs).2 = 0
    · rw [dec_stop h0]; simp
    · rw [dec_step h0]
      have := ih (xs.drop (read xs).2.toNat) (by simp; omega)
      simp at this ⊢
      omega
/-- What the loop of 'measure' knows: the first e bytes are k forms. -/
def Went (xs : List Int) (k e : Nat) : Prop := e ≤ xs.length ∧ k ≤ e ∧ (dec xs).1.length = k + (dec (xs.drop e)).1.length ∧ (dec xs).2 = e + (dec (xs.drop e)).2
theorem Went.start (xs : List Int) : Went xs 0 0 := ⟨Nat.zero_le _, Nat.le_refl _, by simp, by simp⟩
theorem Went.step {xs : List Int} {k e : Nat} (h : Went xs k e) (h0 : (read (xs.drop e)).2 ≠ 0) : Went xs (k + 1) (e + (read (xs.drop e)).2.toNat) := by
  obtain ⟨h1, h2, h3, h4⟩ := h
  have hb := read_bounds (xs.drop e)
  rw [dec_step h0] at h3 h4
  rw [List.length_drop] at hb
  simp only [List.drop_drop, List.length_cons] at h3 h4
  exact ⟨by omega, by omega, by omega, by omega⟩
theorem Went.stop {xs : List Int} {k e : Nat} (h : Went xs k e) (h0 : (read (xs.drop e)).2 = 0) : (dec xs).1.length = k ∧ (dec xs).2 = e := by
  obtain ⟨h1, h2, h3, h4⟩ := h
  rw [dec_stop h0] at h3 h4
  simp at h3 h4
  omega
/-- The bytes of scalar values. -/
def enc (l : List Int) : List Int := l.flatMap form
theorem enc_nil : enc [] = [] := rfl
theorem enc_append (a b : List Int) : enc (a ++ b) = enc a ++ enc b := by simp [enc]
theorem take_snoc (l : List Int) (k : Nat) (h : k < l.length) : l.take (k + 1) = l.take k ++ [l.getD k 0] := by
  rw [List.take_succ_eq_append_getElem h]; simp [List.getD, List.getElem?_eq_getElem h]
theorem enc_snoc (l : List Int) (k : Nat) (h : k < l.length) : enc (l.take (k + 1)) = enc (l.take k) ++ form (l.getD k 0) := by
  rw [take_snoc l k h, enc_append]; simp [enc]
theorem form_length {v : Int} (h : size v ≠ 0) : ((form v).length : Int) = size v := by
  have := size_cases v
  unfold form
  repeat' split
  all_goals simp
  all_goals omega
theorem form_le (v : Int) : 1 ≤ (form v).length ∧ (form v).length ≤ 4 := by
  unfold form
  repeat' split
  all_goals simp
theorem enc_le (l : List Int) : l.length ≤ (enc l).length ∧ (enc l).length ≤ 4 * l.length := by
  induction l with
  | nil => simp [enc]
  | cons a l ih =>
    have := form_le a
    rw [show enc (a :: l) = form a ++ enc l from rfl]
    simp only [List.length_append, List.length_cons]
    omega
theorem form_bytes {v : Int} (h : size v ≠ 0) : ∀ x ∈ form v, 0 ≤ x ∧ x ≤ 255 := by
  have := size_cases v
  unfold form
  repeat' split
  all_goals simp
  all_goals omega
theorem enc_bytes {l : List Int} (h : ∀ x ∈ l, size x ≠ 0) : ∀ x ∈ enc l, 0 ≤ x ∧ x ≤ 255 := by
  intro x hx
  obtain ⟨v, hv, hx⟩ := List.mem_flatMap.1 hx
  exact form_bytes (h v hv) x hx
theorem scalar_at {l : List Int} (h : ∀ x ∈ l, size x ≠ 0) {k : Nat} (hk : k < l.length) : size (l.getD k 0) ≠ 0 := by
  have e : l.getD k 0 = l[k] := by simp [List.getD, List.getElem?_eq_getElem hk]
  rw [e]; exact h _ (List.getElem_mem _)
/-- The first number that is no scalar value, if there is one. -/
theorem bad_or (l : List Int) : (∀ x ∈ l, size x ≠ 0) ∨ ∃ k, k < l.length ∧ size (l.getD k 0) = 0 ∧ ∀ i, i < k → size (l.getD i 0) ≠ 0 := by
  induction l with
  | nil => left; simp
  | cons a l ih =>
    by_cases ha : size a = 0
    · exact .inr ⟨0, by simp, by simpa using ha, by intro i hi; omega⟩
    rcases ih with h | ⟨k, h1, h2, h3⟩
    · left; intro x hx; rcases List.mem_cons.1 hx with rfl | hx
      · exact ha
      · exact h x hx
    · refine .inr ⟨k + 1, by simpa using h1, by simpa using h2, ?_⟩
      intro i hi
      cases i with
      | zero => simpa using ha
      | succ i => simpa using h3 i (by omega)
/-- What the loop of Decode has read. -/
def Part (xs : List Int) (k e : Nat) : Prop := e ≤ xs.length ∧ (dec xs).1.drop k = (dec (xs.drop e)).1 ∧ (dec xs).2 = e + (dec (xs.drop e)).2
theorem Part.start (xs : List Int) : Part xs 0 0 := ⟨Nat.zero_le _, by simp, by simp⟩
theorem Part.step {xs : List Int} {k e : Nat} (h : Part xs k e) (hk : k < (dec xs).1.length) :
    (read (xs.drop e)).2 ≠ 0 ∧ (read (xs.drop e)).1 = (dec xs).1.getD k 0 ∧ Part xs (k + 1) (e + (read (xs.drop e)).2.toNat) ∧ e < xs.length := by
  obtain ⟨h1, h2, h3⟩ := h
  have hb := read_bounds (xs.drop e)
  rw [List.length_drop] at hb
  rw [List.drop_eq_getElem_cons hk] at h2
  by_cases h0 : (read (xs.drop e)).2 = 0
  · rw [dec_stop h0] at h2; cases h2
  rw [dec_step h0] at h2 h3
  simp only [List.cons.injEq, List.drop_drop] at h2 h3
  refine ⟨h0, ?_, ⟨by omega, h2.2, by omega⟩, by omega⟩
  rw [← h2.1]; simp [List.getD, List.getElem?_eq_getElem hk]
def fill (D : List Int) (m k : Nat) : List Int := D.take k ++ List.replicate (m - k) 0
theorem fill_zero (D : List Int) (m : Nat) : fill D m 0 = List.replicate m 0 := by simp [fill]
theorem fill_all (D : List Int) (m : Nat) (h : D.length = m) : fill D m m = D := by subst h; simp [fill]
theorem fill_len (D : List Int) (m k : Nat) (h : D.length = m) (hk : k ≤ m) : (fill D m k).length = m := by simp [fill]; omega
theorem fill_step (D : List Int) (m k : Nat) (h : D.length = m) (hk : k < m) : (fill D m k).set k (D.getD k 0) = fill D m (k + 1) := by
  apply List.ext_getElem
  · simp [fill]; omega
  · intro i h1 h2
    have hk' : k < D.length := by omega
    have e : D.getD k 0 = D[k] := by simp [List.getD, List.getElem?_eq_getElem hk']
    simp only [List.getElem_set, fill, e]
    by_cases hik : k = i
    · subst hik
      rw [if_pos rfl, List.getElem_append_left (by simp; omega)]
      simp
    · rw [if_neg hik]
      by_cases hlt : i < k
      · rw [List.getElem_append_left (by simp; omega), List.getElem_append_left (by simp; omega)]
        simp
      · rw [List.getElem_append_right (by simp; omega), List.getElem_append_right (by simp; omega)]
        simp
end Utf
end Go.Proofs.Ytkcalmighgdojab
