/- Spots of stops: columns, leanings, steps, mirrors: plain mathematics. -/
import Derived.Test.YtbbhefiibcbbfaaOo
namespace Go.Proofs.Ytbbhefiibcbbfaa
set_option linter.unusedVariables false
namespace Spt
/-- The levels with the paragraph's behind them. -/
def al (l : List Int) (b : Int) : List Int := l ++ [b]
theorem al_len (l : List Int) (b : Int) : (al l b).length = l.length + 1 := by simp [al]
theorem al_at {l : List Int} {b : Int} {i : Nat} (h : i < l.length) : (al l b).getD i 0 = l.getD i 0 := by simp [al, List.getD, List.getElem?_append_left h]
theorem al_end (l : List Int) (b : Int) : (al l b).getD l.length 0 = b := by simp [al, List.getD]
theorem al_fo {l : List Int} {b : Int} (hb : b = 0 ∨ b = 1) : Od.Fo (al l b) ↔ Od.Fo l := by
  constructor
  · intro h i hi
    have := h i (by rw [al_len]; omega)
    rwa [al_at hi] at this
  · intro h i hi
    rw [al_len] at hi
    by_cases q : i < l.length
    · rw [al_at q]; exact h i q
    · obtain rfl : i = l.length := by omega
      rw [al_end]; omega
/-- The next place that is seen. -/
def nxf (a : List Int) : Nat → Nat → Nat
  | 0, i => i
  | d + 1, i => if 0 ≤ a.getD i 0 then i else nxf a d (i + 1)
theorem nxf_ok {a : List Int} : ∀ d i, 0 ≤ a.getD (i + d) 0 → i ≤ nxf a d i ∧ nxf a d i ≤ i + d ∧ 0 ≤ a.getD (nxf a d i) 0 ∧ ∀ j, i ≤ j → j < nxf a d i → a.getD j 0 < 0
  | 0, i, h => ⟨Nat.le_refl _, Nat.le_refl _, by simpa [nxf] using h, fun j h1 h2 => by simp only [nxf] at h2; omega⟩
  | d + 1, i, h => by
    unfold nxf
    by_cases h0 : 0 ≤ a.getD i 0
    · rw [if_pos h0]
      exact ⟨Nat.le_refl _, by omega, h0, fun j h1 h2 => by omega⟩
    · rw [if_neg h0]
      obtain ⟨h1, h2, h3, h4⟩ := nxf_ok d (i + 1) (by rw [show i + 1 + d = i + (d + 1) by omega]; exact h)
      refine ⟨by omega, by omega, h3, fun j g1 g2 => ?_⟩
      by_cases e : j = i
      · subst e; omega
      · exact h4 j (by omega) g2
def nx (a : List Int) (i : Nat) : Nat := nxf a (a.length - 1 - i) i
/-- The last place is seen. -/
def End (a : List Int) : Prop := 0 < a.length ∧ 0 ≤ a.getD (a.length - 1) 0
theorem al_endE {l : List Int} {b : Int} (hb : b = 0 ∨ b = 1) : End (al l b) := by
  refine ⟨by rw [al_len]; omega, ?_⟩
  rw [al_len, Nat.add_sub_cancel, al_end]
  omega
theorem nx_ok {a : List Int} (h : End a) {i : Nat} (hi : i < a.length) : i ≤ nx a i ∧ nx a i < a.length ∧ Od.sn a (nx a i) = true ∧ ∀ j, i ≤ j → j < nx a i → a.getD j 0 < 0 := by
  obtain ⟨h1, h2, h3, h4⟩ := nxf_ok (a := a) (a.length - 1 - i) i (by rw [show i + (a.length - 1 - i) = a.length - 1 by omega]; exact h.2)
  have h5 : nx a i < a.length := by unfold nx; omega
  exact ⟨h1, h5, Od.sn_of h3 h5, h4⟩
theorem nx_unique {a : List Int} (h : End a) {i k : Nat} (hi : i < a.length) (hik : i ≤ k) (hk : 0 ≤ a.getD k 0) (hu : ∀ j, i ≤ j → j < k → a.getD j 0 < 0) : nx a i = k := by
  obtain ⟨h1, h2, h3, h4⟩ := nx_ok h hi
  have h5 := (Od.sn_at h3).2
  rcases Nat.lt_trichotomy (nx a i) k with q | q | q
  · have := hu _ h1 q; omega
  · exact q
  · have := h4 k hik q; omega
theorem nx_self {a : List Int} (h : End a) {i : Nat} (hi : i < a.length) : nx a i = i ↔ 0 ≤ a.getD i 0 := by
  constructor
  · intro e
    have := (Od.sn_at (nx_ok h hi).2.2.1).2
    rwa [e] at this
  · intro h0
    exact nx_unique h hi (Nat.le_refl _) h0 fun j h1 h2 => by omega
/-- The column of a place. -/
def co (a : List Int) (k : Nat) : Int := (Od.CO (Od.ON a) a.length (Od.ON a).length).getD k 0
theorem co_seen {a : List Int} (hf : Od.Fo a) {k : Nat} (hk : Od.sn a k = true) : ∃ c : Nat, c < (Od.OD a).length ∧ (Od.OD a).getD c 0 = k ∧ co a k = (c : Int) := by
  obtain ⟨c, h1, h2, h3⟩ := Od.seen_col hf hk
  refine ⟨c, h1, h2, ?_⟩
  unfold co
  rw [Od.CO_at (Od.sn_at hk).1]
  exact h3
theorem co_at {a : List Int} (hf : Od.Fo a) {c : Nat} (hc : c < (Od.OD a).length) : co a ((Od.OD a).getD c 0) = (c : Int) := by
  have hs := ((Od.OD_vis hf).mem _).1 (Od.OD_in hc)
  obtain ⟨d, h1, h2, h3⟩ := co_seen hf hs
  rw [h3, Od.OD_once hf h1 hc h2]
/-- The spot of a place, as two whole numbers. -/
def ln (a : List Int) (i : Nat) : Int := if nx a i = i then 1 - 2 * (a.getD i 0 % 2) else 0
def sp (a : List Int) (i : Nat) : Int × Int := (co a (nx a i), ln a i)
def SP (a : List Int) : List (Int × Int) := (List.range a.length).map (sp a)
theorem SP_len (a : List Int) : (SP a).length = a.length := by simp [SP]
theorem SP_at (a : List Int) {i : Nat} (h : i < a.length) : (SP a).getD i (0, 0) = sp a i := by simp [SP, List.getD, h]
theorem ln_seen {a : List Int} (h : End a) {i : Nat} (hi : i < a.length) : ¬ ln a i = 0 ↔ 0 ≤ a.getD i 0 := by
  rw [← nx_self h hi]
  unfold ln
  by_cases e : nx a i = i
  · rw [if_pos e]; exact ⟨fun _ => e, fun _ => by omega⟩
  · rw [if_neg e]; exact ⟨fun q => absurd rfl q, fun q => absurd q e⟩
theorem ln_cases (a : List Int) (i : Nat) : ln a i = 0 ∨ ln a i = 1 ∨ ln a i = -1 := by
  unfold ln
  split <;> omega
/-- The first stop in a column. -/
def Cd (Z : List (Int × Int)) (c : Int) (k : Nat) : Prop := ¬ (Z.getD k (0, 0)).2 = 0 ∧ (Z.getD k (0, 0)).1 = c
instance (Z : List (Int × Int)) (c : Int) (k : Nat) : Decidable (Cd Z c k) := by unfold Cd; exact inferInstance
def FIf (Z : List (Int × Int)) (c : Int) : Nat → Nat → Option Nat
  | 0, _ => none
  | d + 1, i => if Cd Z c i then some i else FIf Z c d (i + 1)
def FI (Z : List (Int × Int)) (c : Int) : Option Nat := FIf Z c Z.length 0
theorem FIf_skip {Z : List (Int × Int)} {c : Int} : ∀ d i n, (∀ j, i ≤ j → j < i + d → ¬ Cd Z c j) → FIf Z c (d + n) i = FIf Z c n (i + d)
  | 0, i, n, _ => by simp
  | d + 1, i, n, h => by
    rw [show d + 1 + n = (d + n) + 1 by omega, FIf, if_neg (h i (Nat.le_refl _) (by omega)), FIf_skip d (i + 1) n fun j h1 h2 => h j (by omega) (by omega)]
    congr 1
    omega
theorem FI_none {Z : List (Int × Int)} {c : Int} (h : ∀ j, j < Z.length → ¬ Cd Z c j) : FI Z c = none := by
  have := FIf_skip (Z := Z) (c := c) Z.length 0 0 fun j _ h2 => h j (by omega)
  rw [Nat.add_zero] at this
  exact this
theorem FI_some {Z : List (Int × Int)} {c : Int} {k : Nat} (hk : k < Z.length) (hc : Cd Z c k) (h : ∀ j, j < k → ¬ Cd Z c j) : FI Z c = some k := by
  have := FIf_skip (Z := Z) (c := c) k 0 (Z.length - k) fun j _ h2 => h j (by omega)
  rw [show k + (Z.length - k) = Z.length by omega, Nat.zero_add] at this
  unfold FI
  rw [this, show Z.length - k = (Z.length - k - 1) + 1 by omega, FIf, if_pos hc]
theorem FI_cases (Z : List (Int × Int)) (c : Int) : (FI Z c = none ∧ ∀ j, j < Z.length → ¬ Cd Z c j) ∨ ∃ k, k < Z.length ∧ FI Z c = some k ∧ Cd Z c k ∧ ∀ j, j < k → ¬ Cd Z c j := by
  by_cases h : ∃ k, k < Z.length ∧ Cd Z c k
  · have hh : ∀ n, (∃ k, k < n ∧ k < Z.length ∧ Cd Z c k) → ∃ k, k < Z.length ∧ Cd Z c k ∧ ∀ j, j < k → ¬ Cd Z c j := by
      intro n
      induction n with
      | zero => rintro ⟨k, hk, _⟩; omega
      | succ n ih =>
        rintro ⟨k, h1, h2, h3⟩
        by_cases q : ∃ k, k < n ∧ k < Z.length ∧ Cd Z c k
        · exact ih q
        · refine ⟨k, h2, h3, fun j hj hc => q ⟨j, by omega, by omega, hc⟩⟩
    obtain ⟨k, h1, h2⟩ := h
    obtain ⟨k, g1, g2, g3⟩ := hh Z.length ⟨k, h1, h1, h2⟩
    exact .inr ⟨k, g1, FI_some g1 g2 g3, g2, g3⟩
  · have hn : ∀ j, j < Z.length → ¬ Cd Z c j := fun j hj hc => h ⟨j, hj, hc⟩
    exact .inl ⟨FI_none hn, hn⟩
theorem FI_same {Z Y : List (Int × Int)} {c e : Int} (hl : Z.length = Y.length) (h : ∀ j, j < Z.length → (Cd Z c j ↔ Cd Y e j)) : FI Z c = FI Y e := by
  rcases FI_cases Y e with ⟨h1, h2⟩ | ⟨k, h1, h2, h3, h4⟩
  · rw [h1]
    exact FI_none fun j hj q => h2 j (by omega) ((h j hj).1 q)
  · rw [h2]
    exact FI_some (by omega) ((h k (by omega)).2 h3) fun j hj q => h4 j hj ((h j (by omega)).1 q)
theorem Cd_SP {a : List Int} (he : End a) {i : Nat} (hi : i < a.length) {c : Int} : Cd (SP a) c i ↔ (0 ≤ a.getD i 0 ∧ co a i = c) := by
  unfold Cd
  rw [SP_at a hi]
  constructor
  · rintro ⟨h1, h2⟩
    have h3 := (ln_seen he hi).1 h1
    have h4 := (nx_self he hi).2 h3
    unfold sp at h2
    rw [h4] at h2
    exact ⟨h3, h2⟩
  · rintro ⟨h1, h2⟩
    have h4 := (nx_self he hi).2 h1
    exact ⟨(ln_seen he hi).2 h1, by unfold sp; rw [h4]; exact h2⟩
section
variable {a : List Int} (hf : Od.Fo a) (he : End a)
include hf he
/-- Each column has just one stop. -/
theorem FI_SP {c : Nat} (hc : c < (Od.OD a).length) : FI (SP a) (c : Int) = some ((Od.OD a).getD c 0) := by
  have hs := ((Od.OD_vis hf).mem _).1 (Od.OD_in hc)
  have hlt := (Od.sn_at hs).1
  refine FI_some (by rw [SP_len]; exact hlt) ((Cd_SP he hlt).2 ⟨(Od.sn_at hs).2, co_at hf hc⟩) fun j hj q => ?_
  obtain ⟨q1, q2⟩ := (Cd_SP he (by omega)).1 q
  obtain ⟨d, h1, h2, h3⟩ := co_seen hf (Od.sn_of q1 (by omega))
  have : d = c := by omega
  subst this
  omega
theorem FI_out {c : Int} (hc : c < 0 ∨ ((Od.OD a).length : Int) ≤ c) : FI (SP a) c = none := FI_none fun j hj q => by
  rw [SP_len] at hj
  obtain ⟨q1, q2⟩ := (Cd_SP he hj).1 q
  obtain ⟨d, h1, h2, h3⟩ := co_seen hf (Od.sn_of q1 hj)
  omega
theorem OD_pos : 0 < (Od.OD a).length := by
  obtain ⟨d, h1, _⟩ := co_seen hf (Od.sn_of he.2 (show a.length - 1 < a.length by have := he.1; omega))
  omega
/-- The column of any place's spot. -/
theorem col_range {i : Nat} (hi : i < a.length) : ∃ c : Nat, c < (Od.OD a).length ∧ (Od.OD a).getD c 0 = nx a i ∧ (sp a i).1 = (c : Int) := co_seen hf (nx_ok he hi).2.2.1
end
/-- A step: the place, and the error. -/
def ST (Z : List (Int × Int)) (i s : Int) : Int × Int :=
  if i < 0 ∨ (Z.length : Int) ≤ i ∨ (¬ s = 1 ∧ ¬ s = -1) then (0, 4) else match FI Z ((Z.getD i.toNat (0, 0)).1 + s) with | some k => ((k : Int), 0) | none => (0, 150)
/-- Offset, of whole parts. -/
def OF (Z : List (Int × Int)) (x y : Int) : Int × Int :=
  if ¬ y = 1 ∧ ¬ y = -1 then (0, 4) else match FI Z x with | some k => ((k : Int), 0) | none => (0, 150)
theorem ST_in {Z : List (Int × Int)} {i : Nat} {s : Int} (hi : i < Z.length) (hs : s = 1 ∨ s = -1) : ST Z (i : Int) s = match FI Z ((Z.getD i (0, 0)).1 + s) with | some k => ((k : Int), 0) | none => (0, 150) := by
  unfold ST
  rw [if_neg (by omega), Int.toNat_natCast]
section
variable {a : List Int} (hf : Od.Fo a) (he : End a)
include hf he
/-- A step from a place of a line. -/
theorem ST_SP {i c : Nat} (hi : i < a.length) (hc : (sp a i).1 = (c : Int)) (hcm : c < (Od.OD a).length) :
    ST (SP a) (i : Int) 1 = (if c + 1 < (Od.OD a).length then (((Od.OD a).getD (c + 1) 0 : Nat) : Int) else 0, if c + 1 < (Od.OD a).length then 0 else 150) ∧
    ST (SP a) (i : Int) (-1) = (if 0 < c then (((Od.OD a).getD (c - 1) 0 : Nat) : Int) else 0, if 0 < c then 0 else 150) := by
  have hil : i < (SP a).length := by rw [SP_len]; exact hi
  constructor
  · rw [ST_in hil (.inl rfl), SP_at a hi, hc]
    by_cases h : c + 1 < (Od.OD a).length
    · rw [if_pos h, if_pos h, show (c : Int) + 1 = ((c + 1 : Nat) : Int) by omega, FI_SP hf he h]
    · rw [if_neg h, if_neg h, FI_out hf he (by omega)]
  · rw [ST_in hil (.inr rfl), SP_at a hi, hc]
    by_cases h : 0 < c
    · rw [if_pos h, if_pos h, show (c : Int) + -1 = ((c - 1 : Nat) : Int) by omega, FI_SP hf he (by omega)]
    · rw [if_neg h, if_neg h, FI_out hf he (by omega)]
end
/-- A line in a mirror. -/
def cnt (Z : List (Int × Int)) : Nat := (Z.filter fun p => decide (¬ p.2 = 0)).length
def FP (Z : List (Int × Int)) : List (Int × Int) := Z.map fun p => ((cnt Z : Int) - 1 - p.1, -p.2)
theorem FP_len (Z : List (Int × Int)) : (FP Z).length = Z.length := by simp [FP]
theorem FP_at (Z : List (Int × Int)) {i : Nat} (h : i < Z.length) : (FP Z).getD i (0, 0) = ((cnt Z : Int) - 1 - (Z.getD i (0, 0)).1, -(Z.getD i (0, 0)).2) := by simp [FP, List.getD, h]
theorem cnt_FP (Z : List (Int × Int)) : cnt (FP Z) = cnt Z := by
  unfold FP cnt
  rw [List.filter_map, List.length_map]
  congr 1
  refine List.filter_congr fun p _ => ?_
  simp
theorem FP_twice (Z : List (Int × Int)) : FP (FP Z) = Z := by
  refine List.ext_getElem (by rw [FP_len, FP_len]) fun i h1 h2 => ?_
  have e : (FP (FP Z)).getD i (0, 0) = Z.getD i (0, 0) := by
    rw [FP_at _ (by rw [FP_len]; exact h2), FP_at _ h2, cnt_FP]
    refine Prod.ext ?_ ?_
    · show (cnt Z : Int) - 1 - ((cnt Z : Int) - 1 - _) = _
      omega
    · show - - _ = _
      omega
  simpa [List.getD, h1, h2] using e
theorem FI_FP (Z : List (Int × Int)) (c : Int) : FI (FP Z) c = FI Z ((cnt Z : Int) - 1 - c) := FI_same (FP_len Z) fun j hj => by
  rw [FP_len] at hj
  unfold Cd
  rw [FP_at _ hj]
  constructor
  · rintro ⟨h1, h2⟩
    exact ⟨fun q => h1 (by show -_ = _; omega), by have h3 : (cnt Z : Int) - 1 - (Z.getD j (0, 0)).1 = c := h2; omega⟩
  · rintro ⟨h1, h2⟩
    exact ⟨fun q => h1 (by have h3 : -(Z.getD j (0, 0)).2 = 0 := q; omega), by show (cnt Z : Int) - 1 - _ = c; omega⟩
theorem ST_FP (Z : List (Int × Int)) (i s : Int) : ST (FP Z) i (-s) = ST Z i s := by
  unfold ST
  rw [FP_len]
  by_cases h : i < 0 ∨ (Z.length : Int) ≤ i ∨ (¬ s = 1 ∧ ¬ s = -1)
  · rw [if_pos h, if_pos (by omega)]
  · rw [if_neg h, if_neg (by omega), FI_FP, FP_at _ (by omega)]
    show (match FI Z ((cnt Z : Int) - 1 - (((cnt Z : Int) - 1 - _) + -s)) with | some k => ((k : Int), (0 : Int)) | none => (0, 150)) = _
    rw [show (cnt Z : Int) - 1 - (((cnt Z : Int) - 1 - (Z.getD i.toNat (0, 0)).1) + -s) = (Z.getD i.toNat (0, 0)).1 + s by omega]
end Spt
end Go.Proofs.Ytbbhefiibcbbfaa
