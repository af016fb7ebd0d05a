import Derived.Test.YtmdmehopefgndaaGreatDoorZ02
/- Plain mathematics: forms are read as they were written, and nothing else is. -/
namespace Go.Proofs.YtmdmehopefgndaaGreatDoor
namespace Utf
theorem first_eq {c r s : Int} (h : (c < 128 ∧ r = c ∧ s = 1) ∨ (192 ≤ c ∧ c < 224 ∧ r = c - 192 ∧ s = 2) ∨ (224 ≤ c ∧ c < 240 ∧ r = c - 224 ∧ s = 3) ∨ (240 ≤ c ∧ c < 248 ∧ r = c - 240 ∧ s = 4)) : first c = (r, s) := by
  unfold first
  repeat' split
  all_goals simp only [Prod.mk.injEq]
  all_goals omega
theorem read_form {v : Int} (h : size v ≠ 0) (rest : List Int) : read (form v ++ rest) = (v, size v) := by
  have hs := size_cases v
  by_cases h1 : v < 128
  · have e : form v = [v] := by simp [form, h1]
    have z : size v = 1 := by omega
    have hf : first v = (v, 1) := first_eq (by omega)
    rw [e, z]
    have : read (v :: rest) = (v, (first v).2) := read_some (by rw [hf]; simp; omega) (by rw [hf]; simp [conts]) (by rw [hf]; exact z)
    rw [hf] at this
    exact this
  by_cases h2 : v < 2048
  · have e : form v = [192 + v / 64, 128 + v % 64] := by simp [form, h1, h2]
    have z : size v = 2 := by omega
    have hf : first (192 + v / 64) = (v / 64, 2) := first_eq (by omega)
    rw [e, z]
    have : read ((192 + v / 64) :: (128 + v % 64) :: rest) = (v, (first (192 + v / 64)).2) := read_some (by rw [hf]; simp; omega)
      (by rw [hf]; simp only [Int.toNat, List.take, conts]; rw [if_neg (by omega)]; congr 1; omega) (by rw [hf]; exact z)
    rw [hf] at this
    exact this
  by_cases h3 : v < 65536
  · have e : form v = [224 + v / 4096, 128 + v / 64 % 64, 128 + v % 64] := by simp [form, h1, h2, h3]
    have z : size v = 3 := by omega
    have hf : first (224 + v / 4096) = (v / 4096, 3) := first_eq (by omega)
    rw [e, z]
    have : read ((224 + v / 4096) :: (128 + v / 64 % 64) :: (128 + v % 64) :: rest) = (v, (first (224 + v / 4096)).2) := read_some (by rw [hf]; simp; omega)
      (by rw [hf]; simp only [Int.toNat, List.take, conts]; rw [if_neg (by omega), if_neg (by omega)]; congr 1; omega) (by rw [hf]; exact z)
    rw [hf] at this
    exact this
  · have e : form v = [240 + v / 262144, 128 + v / 4096 % 64, 128 + v / 64 % 64, 128 + v % 64] := by simp [form, h1, h2, h3]
    have z : size v = 4 := by omega
    have hf : first (240 + v / 262144) = (v / 262144, 4) := first_eq (by omega)
    rw [e, z]
    have : read ((240 + v / 262144) :: (128 + v / 4096 % 64) :: (128 + v / 64 % 64) :: (128 + v % 64) :: rest) = (v, (first (240 + v / 262144)).2) := read_some (by rw [hf]; simp; omega)
      (by rw [hf]; simp only [Int.toNat, List.take, conts]; rw [if_neg (by omega), if_neg (by omega), if_neg (by omega)]; congr 1; omega) (by rw [hf]; exact z)
    rw [hf] at this
    exact this
theorem first_inv {c : Int} : (c < 128 ∧ first c = (c, 1)) ∨ (192 ≤ c ∧ c < 224 ∧ first c = (c - 192, 2)) ∨ (224 ≤ c ∧ c < 240 ∧ first c = (c - 224, 3)) ∨ (240 ≤ c ∧ c < 248 ∧ first c = (c - 240, 4)) ∨ (first c).2 = 0 := by
  unfold first
  repeat' split
  all_goals simp
  all_goals omega
/-- What is read is a form that stands there. -/
theorem form_read {ys : List Int} (h : (read ys).2 ≠ 0) (hb : ∀ x ∈ ys, 0 ≤ x ∧ x ≤ 255) : form (read ys).1 = ys.take (read ys).2.toNat ∧ size (read ys).1 = (read ys).2 := by
  have hz := (read_bounds ys).2.2.2
  rw [if_neg h] at hz
  refine ⟨?_, hz⟩
  cases ys with
  | nil => simp [read] at h
  | cons c cs =>
    by_cases h0 : (first c).2 = 0 ∨ (cs.length : Int) + 1 < (first c).2
    · rw [read_short h0] at h; simp at h
    cases hc : conts (first c).1 (cs.take ((first c).2.toNat - 1)) with
    | none => rw [read_none hc] at h; simp at h
    | some v =>
      by_cases hs : size v = (first c).2
      · have hr := read_some h0 hc hs
        rw [hr] at h ⊢
        simp only
        have hv := size_cases v
        have hc0 := hb c (by simp)
        rcases first_inv (c := c) with ⟨g, hf⟩ | ⟨g, g', hf⟩ | ⟨g, g', hf⟩ | ⟨g, g', hf⟩ | hf
        · rw [hf] at hc hs ⊢
          simp [conts] at hc
          subst hc
          simp [form, g]
        · rw [hf] at hc hs h0 ⊢
          simp only at hs h0
          match cs, h0 with
          | [], h0 => simp at h0
          | c1 :: cs, _ =>
            simp only [Int.toNat, List.take, conts] at hc
            split at hc
            · simp at hc
            simp only [Option.some.injEq] at hc
            have e : form v = [192 + v / 64, 128 + v % 64] := by simp only [form]; rw [if_neg (by omega), if_pos (by omega)]
            rw [e]
            simp only [Int.toNat, List.take]
            rw [show 192 + v / 64 = c from by omega, show 128 + v % 64 = c1 from by omega]
        · rw [hf] at hc hs h0 ⊢
          simp only at hs h0
          match cs, h0 with
          | [], h0 => simp at h0
          | [_], h0 => simp at h0
          | c1 :: c2 :: cs, _ =>
            simp only [Int.toNat, List.take, conts] at hc
            split at hc
            · simp at hc
            split at hc
            · simp at hc
            simp only [Option.some.injEq] at hc
            have e : form v = [224 + v / 4096, 128 + v / 64 % 64, 128 + v % 64] := by simp only [form]; rw [if_neg (by omega), if_neg (by omega), if_pos (by omega)]
            rw [e]
            simp only [Int.toNat, List.take]
            rw [show 224 + v / 4096 = c from by omega, show 128 + v / 64 % 64 = c1 from by omega, show 128 + v % 64 = c2 from by omega]
        · rw [hf] at hc hs h0 ⊢
          simp only at hs h0
          match cs, h0 with
          | [], h0 => simp at h0
          | [_], h0 => simp at h0
          | [_, _], h0 => simp at h0
          | c1 :: c2 :: c3 :: cs, _ =>
            simp only [Int.toNat, List.take, conts] at hc
            split at hc
            · simp at hc
            split at hc
            · simp at hc
            split at hc
            · simp at hc
            simp only [Option.some.injEq] at hc
            have e : form v = [240 + v / 262144, 128 + v / 4096 % 64, 128 + v / 64 % 64, 128 + v % 64] := by simp only [form]; rw [if_neg (by omega), if_neg (by omega), if_neg (by omega)]
            rw [e]
            simp only [Int.toNat, List.take]
            rw [show 240 + v / 262144 = c from by omega, show 128 + v / 4096 % 64 = c1 from by omega, show 128 + v / 64 % 64 = c2 from by omega, show 128 + v % 64 = c3 from by omega]
        · exact absurd hf (by omega)
      · rw [read_odd hc hs] at h; simp at h
/-- The number that so many bytes would be. -/
def val : Nat → List Int → Int
  | 1, x0 :: _ => x0
  | 2, x0 :: x1 :: _ => (x0 - 192) * 64 + x1 - 128
  | 3, x0 :: x1 :: x2 :: _ => ((x0 - 224) * 64 + x1 - 128) * 64 + x2 - 128
  | 4, x0 :: x1 :: x2 :: x3 :: _ => (((x0 - 240) * 64 + x1 - 128) * 64 + x2 - 128) * 64 + x3 - 128
  | _, _ => 0
theorem read_of_take {ys : List Int} {v : Int} {k : Nat} (hs : size v = k) (hk : k ≠ 0) (h : ys.take k = form v) : read ys = (v, (k : Int)) := by
  have e : ys = form v ++ ys.drop k := by rw [← h, List.take_append_drop]
  rw [e, read_form (by omega), hs]
theorem val_form {v : Int} (h : size v ≠ 0) (rest : List Int) : val (size v).toNat (form v ++ rest) = v := by
  have hs := size_cases v
  by_cases h1 : v < 128
  · have e : form v = [v] := by simp [form, h1]
    rw [e, show size v = 1 from by omega]; rfl
  by_cases h2 : v < 2048
  · have e : form v = [192 + v / 64, 128 + v % 64] := by simp [form, h1, h2]
    rw [e, show size v = 2 from by omega]
    show (192 + v / 64 - 192) * 64 + (128 + v % 64) - 128 = v
    omega
  by_cases h3 : v < 65536
  · have e : form v = [224 + v / 4096, 128 + v / 64 % 64, 128 + v % 64] := by simp [form, h1, h2, h3]
    rw [e, show size v = 3 from by omega]
    show ((224 + v / 4096 - 224) * 64 + (128 + v / 64 % 64) - 128) * 64 + (128 + v % 64) - 128 = v
    omega
  · have e : form v = [240 + v / 262144, 128 + v / 4096 % 64, 128 + v / 64 % 64, 128 + v % 64] := by simp [form, h1, h2, h3]
    rw [e, show size v = 4 from by omega]
    show (((240 + v / 262144 - 240) * 64 + (128 + v / 4096 % 64) - 128) * 64 + (128 + v / 64 % 64) - 128) * 64 + (128 + v % 64) - 128 = v
    omega
theorem val_read {ys : List Int} (h : (read ys).2 ≠ 0) (hb : ∀ x ∈ ys, 0 ≤ x ∧ x ≤ 255) : val (read ys).2.toNat ys = (read ys).1 := by
  obtain ⟨e1, e2⟩ := form_read h hb
  have e : ys = form (read ys).1 ++ ys.drop (read ys).2.toNat := by rw [e1, List.take_append_drop]
  have := val_form (v := (read ys).1) (by omega) (ys.drop (read ys).2.toNat)
  rw [← e, e2] at this
  exact this
/-- The bytes of scalar values are read as these. -/
theorem dec_enc (l : List Int) (h : ∀ x ∈ l, size x ≠ 0) : dec (enc l) = (l, (enc l).length) := by
  induction l with
  | nil => rfl
  | cons v l ih =>
    have hv := h v (by simp)
    have e : enc (v :: l) = form v ++ enc l := rfl
    have hr := read_form hv (enc l)
    have hl := form_length hv
    have hd : (form v ++ enc l).drop (size v).toNat = enc l := by
      rw [show (size v).toNat = (form v).length from by omega, List.drop_left]
    rw [e, dec_step (by rw [hr]; exact hv), hr]
    simp only
    rw [hd, ih (fun x hx => h x (by simp [hx]))]
    simp only [List.length_append]
    rw [show (size v).toNat = (form v).length from by omega]
/-- What is read of bytes has these bytes. -/
theorem enc_dec : ∀ (n : Nat) (xs : List Int), xs.length ≤ n → (∀ x ∈ xs, 0 ≤ x ∧ x ≤ 255) → enc (dec xs).1 = xs.take (dec xs).2 ∧ ∀ x ∈ (dec xs).1, size x ≠ 0 := by
  intro n
  induction n with
  | zero => intro xs h _; obtain rfl : xs = [] := List.length_eq_zero_iff.1 (by omega); simp [dec_nil, enc_nil]
  | succ n ih =>
    intro xs h hb
    have hbd := read_bounds xs
    by_cases h0 : (read xs).2 = 0
    · rw [dec_stop h0]; simp [enc_nil]
    · obtain ⟨e1, e2⟩ := form_read h0 hb
      have := ih (xs.drop (read xs).2.toNat) (by simp; omega) (fun x hx => hb x (List.mem_of_mem_drop hx))
      rw [dec_step h0]
      simp only
      refine ⟨?_, ?_⟩
      · rw [show enc ((read xs).1 :: (dec (xs.drop (read xs).2.toNat)).1) = form (read xs).1 ++ enc (dec (xs.drop (read xs).2.toNat)).1 from rfl, this.1, e1, List.take_add]
      · intro x hx
        rcases List.mem_cons.1 hx with rfl | hx
        · omega
        · exact this.2 x hx
end Utf
end Go.Proofs.YtmdmehopefgndaaGreatDoor
