/- Explicit levels: what lies in an isolate changes nothing outside; plain mathematics. -/
import Derived.Test.YthoganddhoklpaaExd
namespace Go.Proofs.Ythoganddhoklpaa.Ex
set_option linter.unusedVariables false
/-- Classes without isolates and separators. -/
def ck (x : Int) : Bool := decide (1 ≤ x) && decide (x ≤ 19) && !(x == 11)
theorem ck_iff {x : Int} : ck x = true ↔ 1 ≤ x ∧ x ≤ 19 ∧ ¬ x = 11 := by
  unfold ck
  simp [and_assoc]
def Cl (i : List Int) : Prop := ∀ x ∈ i, 1 ≤ x ∧ x ≤ 19 ∧ ¬ x = 11
theorem cl_filter (c : List Int) : Cl (c.filter ck) := fun x hx => ck_iff.1 (List.mem_filter.1 hx).2
theorem cl_st {x : Int} (h : 1 ≤ x ∧ x ≤ 19 ∧ ¬ x = 11) : Iso.st x = false ∧ ¬ x = 23 := by
  refine ⟨?_, by omega⟩
  unfold Iso.st
  simp only [Bool.or_eq_false_iff, beq_eq_false_iff_ne]
  omega
/-- An RLI, classes, a PDI between others. -/
def ar (a i b : List Int) : List Int := a ++ 21 :: (i ++ 23 :: b)
theorem ar_len (a i b : List Int) : (ar a i b).length = a.length + i.length + b.length + 2 := by simp [ar]; omega
theorem fs_in (i r : List Int) (h : Cl i) (o : Nat) : fs (o + 1) (i ++ r) = fs (o + 1) r := by
  induction i with
  | nil => rfl
  | cons x i ih =>
    have hx := cl_st (h x (by simp))
    rw [List.cons_append, fs_cons, if_neg (by omega), if_neg (by omega), if_neg (by omega)]
    rw [show Iso.nx (o + 1) x = o + 1 from by unfold Iso.nx; rw [if_neg (by rw [hx.1]; decide), if_neg hx.2]]
    exact ih fun y hy => h y (by simp [hy])
theorem fs_iso (i b : List Int) (h : Cl i) (o : Nat) : fs o (21 :: (i ++ 23 :: b)) = fs o b := by
  rw [fs_cons, if_neg (by omega), if_neg (by omega), if_neg (by omega)]
  rw [show Iso.nx o 21 = o + 1 from rfl, fs_in i _ h, fs_cons, if_neg (by omega), if_neg (by omega), if_neg (by omega)]
  rfl
theorem fs_ar (a : List Int) {i i' b : List Int} (h : Cl i) (h' : Cl i') : ∀ o, fs o (ar a i b) = fs o (ar a i' b) := by
  induction a with
  | nil => intro o; show fs o (21 :: (i ++ 23 :: b)) = fs o (21 :: (i' ++ 23 :: b)); rw [fs_iso i b h, fs_iso i' b h']
  | cons x a ih =>
    intro o
    show fs o (x :: ar a i b) = fs o (x :: ar a i' b)
    rw [fs_cons, fs_cons, ih]
theorem step_fs (s : St) (x : Int) {r r' : List Int} (h : fs 0 r = fs 0 r') : step s x r = step s x r' := by
  unfold step wo
  rw [h]
theorem ar_left (a i b : List Int) (k : Nat) (h : k < a.length) : (ar a i b).getD k 0 = a.getD k 0 := getD_left a _ k h
theorem ar_drop (a i b : List Int) (k : Nat) (h : k ≤ a.length) : (ar a i b).drop k = ar (a.drop k) i b := by
  unfold ar
  rw [List.drop_append_of_le_length h]
theorem at_ar (s : St) (a : List Int) {i i' b : List Int} (h : Cl i) (h' : Cl i') : ∀ k, k ≤ a.length → at' s (ar a i b) k = at' s (ar a i' b) k := by
  intro k
  induction k with
  | zero => intro _; rfl
  | succ k ih =>
    intro hk
    rw [at_succ, at_succ, ih (by omega), ar_left a i b k (by omega), ar_left a i' b k (by omega), ar_drop a i b _ hk, ar_drop a i' b _ hk]
    exact step_fs _ _ (fs_ar _ h h' 0)
theorem ar_mid (a i b : List Int) : (ar a i b).getD a.length 0 = 21 := by
  have := getD_right a (21 :: (i ++ 23 :: b)) 0
  rw [Nat.add_zero] at this
  exact this
theorem ar_dropmid (a i b : List Int) : (ar a i b).drop (a.length + 1) = i ++ 23 :: b := by
  unfold ar
  rw [List.drop_append, List.drop_eq_nil_of_le (by omega), show a.length + 1 - a.length = 1 from by omega]
  rfl
theorem ptl_cl (i b : List Int) (h : Cl i) : Iso.ptl 0 (i ++ 23 :: b) = i.length := by
  induction i with
  | nil => rfl
  | cons x i ih =>
    have hx := cl_st (h x (by simp))
    rw [List.cons_append, Iso.ptl_cons, if_neg (by rw [hx.1]; decide), if_neg hx.2, ih fun y hy => h y (by simp [hy])]
    rfl
theorem ar_partner (a i b : List Int) (h : Cl i) : Iso.partner (ar a i b) a.length = a.length + 1 + i.length := by
  unfold Iso.partner
  rw [ar_dropmid, ptl_cl i b h]
theorem ar_back (s : St) (a i b : List Int) (h : Cl i) : at' s (ar a i b) (a.length + 1 + i.length + 1) = at' s (ar a i b) a.length := by
  have hp := ar_partner a i b h
  have := at_pair s (c := ar a i b) (i := a.length) (by rw [ar_mid]; decide) (by rw [hp, ar_len]; omega)
  rw [hp] at this
  exact this
theorem at_right (s : St) (c : List Int) (j : Nat) : ∀ m, at' s c (j + m) = at' (at' s c j) (c.drop j) m := by
  intro m
  induction m with
  | zero => rfl
  | succ m ih =>
    rw [show j + (m + 1) = j + m + 1 from by omega, at_succ, at_succ, ih, List.drop_drop]
    have e : (c.drop j).getD m 0 = c.getD (j + m) 0 := by simp [List.getD]
    rw [e, show j + m + 1 = j + (m + 1) from by omega]
theorem ar_dropend (a i b : List Int) : (ar a i b).drop (a.length + 1 + i.length + 1) = b := by
  rw [show a.length + 1 + i.length + 1 = (a.length + 1) + (i.length + 1) from by omega, ← List.drop_drop, ar_dropmid, List.drop_append, List.drop_eq_nil_of_le (by omega), show i.length + 1 - i.length = 1 from by omega]
  rfl
theorem ar_pdi (a i b : List Int) : (ar a i b).getD (a.length + 1 + i.length) 0 = 23 := by
  have e : (ar a i b).getD (a.length + 1 + i.length) 0 = ((ar a i b).drop (a.length + 1)).getD i.length 0 := by simp [List.getD]
  rw [e, ar_dropmid]
  have := getD_right i (23 :: b) 0
  rw [Nat.add_zero] at this
  exact this
theorem ar_end (a i b : List Int) (m : Nat) : (ar a i b).getD (a.length + 1 + i.length + 1 + m) 0 = b.getD m 0 := by
  have e : (ar a i b).getD (a.length + 1 + i.length + 1 + m) 0 = ((ar a i b).drop (a.length + 1 + i.length + 1)).getD m 0 := by simp [List.getD]
  rw [e, ar_dropend]
/-- A place's level or type, by its state and class. -/
theorem pt_ahead {f : St → Int → Int} (s : St) (a : List Int) {i i' b : List Int} (h : Cl i) (h' : Cl i') (k : Nat) (hk : k ≤ a.length) :
    f (mid (at' s (ar a i b) k) ((ar a i b).getD k 0)) ((ar a i b).getD k 0) = f (mid (at' s (ar a i' b) k) ((ar a i' b).getD k 0)) ((ar a i' b).getD k 0) := by
  rw [at_ar s a h h' k hk]
  have e : (ar a i b).getD k 0 = (ar a i' b).getD k 0 := by
    rcases Nat.lt_or_ge k a.length with h1 | h1
    · rw [ar_left a i b k h1, ar_left a i' b k h1]
    · obtain rfl : k = a.length := by omega
      rw [ar_mid, ar_mid]
  rw [e]
theorem pt_behind {f : St → Int → Int} (s : St) (a : List Int) {i b : List Int} (h : Cl i) (m : Nat) :
    f (mid (at' s (ar a i b) (a.length + 1 + i.length + m)) ((ar a i b).getD (a.length + 1 + i.length + m) 0)) ((ar a i b).getD (a.length + 1 + i.length + m) 0) =
      match m with
      | 0 => f (at' s (ar a i b) a.length) 23
      | m + 1 => f (mid (at' (at' s (ar a i b) a.length) b m) (b.getD m 0)) (b.getD m 0) := by
  cases m with
  | zero =>
    have h1 : mid (at' s (ar a i b) (a.length + 1 + i.length)) 23 = at' s (ar a i b) (a.length + 1 + i.length + 1) := by
      rw [at_succ, ar_pdi]; rfl
    simp only [Nat.add_zero]
    rw [ar_pdi, h1, ar_back s a i b h]
  | succ m =>
    simp only
    rw [show a.length + 1 + i.length + (m + 1) = a.length + 1 + i.length + 1 + m from by omega, ar_end, at_right, ar_back s a i b h, ar_dropend]
theorem range_take (g : Nat → Int) (n m : Nat) (h : m ≤ n) : ((List.range n).map g).take m = (List.range m).map g := by
  rw [← List.map_take, List.take_range, Nat.min_eq_left h]
theorem range_drop (g : Nat → Int) (n j : Nat) : ((List.range n).map g).drop j = (List.range (n - j)).map (fun i => g (j + i)) := by
  apply List.ext_getElem
  · simp
  · intro k h1 h2; simp
/-- WHAT LIES IN AN ISOLATE CHANGES NOTHING OUTSIDE. -/
theorem hides {f : St → Int → Int} (s : St) (a : List Int) {i i' b : List Int} (h : Cl i) (h' : Cl i') :
    let g := fun c k => f (mid (at' s c k) (c.getD k 0)) (c.getD k 0)
    ((List.range (ar a i b).length).map (g (ar a i b))).take (a.length + 1) ++ ((List.range (ar a i b).length).map (g (ar a i b))).drop (a.length + 1 + i.length) =
    ((List.range (ar a i' b).length).map (g (ar a i' b))).take (a.length + 1) ++ ((List.range (ar a i' b).length).map (g (ar a i' b))).drop (a.length + 1 + i'.length) := by
  intro g
  rw [range_take _ _ _ (by rw [ar_len]; omega), range_take _ _ _ (by rw [ar_len]; omega), range_drop, range_drop, ar_len, ar_len]
  rw [show a.length + i.length + b.length + 2 - (a.length + 1 + i.length) = b.length + 1 from by omega, show a.length + i'.length + b.length + 2 - (a.length + 1 + i'.length) = b.length + 1 from by omega]
  congr 1
  · apply List.map_congr_left
    intro k hk
    exact pt_ahead s a h h' k (by have := List.mem_range.1 hk; omega)
  · apply List.map_congr_left
    intro m hm
    show g (ar a i b) (a.length + 1 + i.length + m) = g (ar a i' b) (a.length + 1 + i'.length + m)
    rw [show g (ar a i b) (a.length + 1 + i.length + m) = _ from pt_behind s a h m, show g (ar a i' b) (a.length + 1 + i'.length + m) = _ from pt_behind s a h' m, at_ar s a h h' a.length (Nat.le_refl _)]
theorem hides_lv (a : List Int) {i i' b : List Int} (h : Cl i) (h' : Cl i') : (LV 0 (ar a i b)).take (a.length + 1) ++ (LV 0 (ar a i b)).drop (a.length + 1 + i.length) = (LV 0 (ar a i' b)).take (a.length + 1) ++ (LV 0 (ar a i' b)).drop (a.length + 1 + i'.length) :=
  hides (f := tl 0) (s0 0) a h h'
theorem hides_ty (a : List Int) {i i' b : List Int} (h : Cl i) (h' : Cl i') : (TY 0 (ar a i b)).take (a.length + 1) ++ (TY 0 (ar a i b)).drop (a.length + 1 + i.length) = (TY 0 (ar a i' b)).take (a.length + 1) ++ (TY 0 (ar a i' b)).drop (a.length + 1 + i'.length) :=
  hides (f := ty) (s0 0) a h h'
theorem ar_inner (a i b : List Int) (m : Nat) (h : m < i.length) : (ar a i b).getD (a.length + 1 + m) 0 = i.getD m 0 := by
  have e : (ar a i b).getD (a.length + 1 + m) 0 = ((ar a i b).drop (a.length + 1)).getD m 0 := by simp [List.getD]
  rw [e, ar_dropmid, getD_left i _ m h]
theorem formed_ar {a i i' b : List Int} (h : Cl i) (h' : Cl i') (hf : Formed (ar a i b)) : Formed (ar a i' b) := by
  intro k hk
  rw [ar_len] at hk ⊢
  rcases Nat.lt_or_ge k a.length with h1 | h1
  · have := hf k (by rw [ar_len]; omega)
    rw [ar_left a i b k h1, ar_len] at this
    rw [ar_left a i' b k h1]
    exact ⟨this.1, this.2.1, fun hx => by have := this.2.2 hx; omega⟩
  · rcases Nat.lt_or_ge k (a.length + 1) with h2 | h2
    · obtain rfl : k = a.length := by omega
      rw [ar_mid]
      exact ⟨by decide, by decide, fun hx => absurd hx (by decide)⟩
    · rcases Nat.lt_or_ge k (a.length + 1 + i'.length) with h3 | h3
      · obtain ⟨m, rfl⟩ : ∃ m, k = a.length + 1 + m := ⟨k - (a.length + 1), by omega⟩
        have hm : m < i'.length := by omega
        rw [ar_inner a i' b m hm]
        have := h' (i'.getD m 0) (by simp [List.getD, List.getElem?_eq_getElem hm])
        exact ⟨by omega, by omega, fun hx => absurd hx this.2.2⟩
      · rcases Nat.lt_or_ge k (a.length + 1 + i'.length + 1) with h4 | h4
        · obtain rfl : k = a.length + 1 + i'.length := by omega
          rw [ar_pdi]
          exact ⟨by decide, by decide, fun hx => absurd hx (by decide)⟩
        · obtain ⟨m, rfl⟩ : ∃ m, k = a.length + 1 + i'.length + 1 + m := ⟨k - (a.length + 1 + i'.length + 1), by omega⟩
          have := hf (a.length + 1 + i.length + 1 + m) (by rw [ar_len]; omega)
          rw [ar_end, ar_len] at this
          rw [ar_end]
          exact ⟨this.1, this.2.1, fun hx => by have := this.2.2 hx; omega⟩
end Go.Proofs.Ythoganddhoklpaa.Ex
