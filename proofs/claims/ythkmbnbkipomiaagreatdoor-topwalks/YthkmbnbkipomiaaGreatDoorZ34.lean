import Derived.Test.YthkmbnbkipomiaaGreatDoorZ27
import Derived.Test.YthkmbnbkipomiaaGreatDoorZ33
import Derived.Test.YthkmbnbkipomiaaGreatDoorZ05
/- Spots of stops: columns, leanings, steps, mirrors: plain mathematics. -/
namespace Go.Proofs.YthkmbnbkipomiaaGreatDoor
set_option linter.unusedVariables false
namespace Spt
/-- The levels with the paragraph's behind them. -/
def al (l : List Int) (b : Int) : List Int := l ++ [b]
theorem al_len (l : List Int) (b : Int) : (al l b).length = l.length + 1 := by simp [al]
theorem al_at {l : List Int} {b : Int} {i : Nat} (h : i < l.length) : (al l b).getD i 0 = l.getD i 0 := by simp [al, List.getD, List.getElem?_append_left h]
theorem al_end (l : List Int) (b : Int) : (al l b).getD l.length 0 = b := by simp [al, List.getD]
theorem al_fo {l : List Int} {b : Int} (hb : b = 0 ∨ b = 1) : Od.Fo (al l b) ↔ Od.Fo l := by
  constructor
  · intro h i hi
    have := h i (by rw [al_len]; omega)
    rwa [al_at hi] at this
  · intro h i hi
    rw [al_len] at hi
    by_cases q : i < l.length
    · rw [al_at q]; exact h i q
    · obtain rfl : i = l.length := by omega
      rw [al_end]; omega
/-- The next place that is seen. -/
def nxf (a : List Int) : Nat → Nat → Nat
  | 0, i => i
  | d + 1, i => if 0 ≤ a.getD i 0 then i else nxf a d (i + 1)
theorem nxf_ok {a : List Int} : ∀ d i, 0 ≤ a.getD (i + d) 0 → i ≤ nxf a d i ∧ nxf a d i ≤ i + d ∧ 0 ≤ a.getD (nxf a d i) 0 ∧ ∀ j, i ≤ j → j < nxf a d i → a.getD j 0 < 0
  | 0, i, h => ⟨Nat.le_refl _, Nat.le_refl _, by simpa [nxf] using h, fun j h1 h2 => by simp only [nxf] at h2; omega⟩
  | d + 1, i, h => by
    unfold nxf
    by_cases h0 : 0 ≤ a.getD i 0
    · rw [if_pos h0]
      exact ⟨Nat.le_refl _, by omega, h0, fun j h1 h2 => by omega⟩
    · rw [if_neg h0]
      obtain ⟨h1, h2, h3, h4⟩ := nxf_ok d (i + 1) (by rw [show i + 1 + d = i + (d + 1) by omega]; exact h)
      refine ⟨by omega, by omega, h3, fun j g1 g2 => ?_⟩
      by_cases e : j = i
      · subst e; omega
      · exact h4 j (by omega) g2
def nx (a : List Int) (i : Nat) : Nat := nxf a (a.length - 1 - i) i
/-- The last place is seen. -/
def End (a : List Int) : Prop := 0 < a.length ∧ 0 ≤ a.getD (a.length - 1) 0
theorem al_endE {l : List Int} {b : Int} (hb : b = 0 ∨ b = 1) : End (al l b) := by
  refine ⟨by rw [al_len]; omega, ?_⟩
  rw [al_len, Nat.add_sub_cancel, al_end]
  omega
theorem nx_ok {a : List Int} (h : End a) {i : Nat} (hi : i < a.length) : i ≤ nx a i ∧ nx a i < a.length ∧ Od.sn a (nx a i) = true ∧ ∀ j, i ≤ j → j < nx a i → a.getD j 0 < 0 := by
  obtain ⟨h1, h2, h3, h4⟩ := nxf_ok (a := a) (a.length - 1 - i) i (by rw [show i + (a.length - 1 - i) = a.length - 1 by omega]; exact h.2)
  have h5 : nx a i < a.length := by unfold nx; omega
  exact ⟨h1, h5, Od.sn_of h3 h5, h4⟩
theorem nx_unique {a : List Int} (h : End a) {i k : Nat} (hi : i < a.length) (hik : i ≤ k) (hk : 0 ≤ a.getD k 0) (hu : ∀ j, i ≤ j → j < k → a.getD j 0 < 0) : nx a i = k := by
  obtain ⟨h1, h2, h3, h4⟩ := nx_ok h hi
  have h5 := (Od.sn_at h3).2
  rcases Nat.lt_trichotomy (nx a i) k with q | q | q
  · have := hu _ h1 q; omega
  · exact q
  · have := h4 k hik q; omega
theorem nx_self {a : List Int} (h : End a) {i : Nat} (hi : i < a.length) : nx a i = i ↔ 0 ≤ a.getD i 0 := by
  constructor
  · intro e
    have := (Od.sn_at (nx_ok h hi).2.2.1).2
    rwa [e] at this
  · intro h0
    exact nx_unique h hi (Nat.le_refl _) h0 fun j h1 h2 => by omega
/-- The column of a place. -/
def co (a : List Int) (k : Nat) : Int := (Od.CO (Od.ON a) a.length (Od.ON a).length).getD k 0
theorem co_seen {a : List Int} (hf : Od.Fo a) {k : Nat} (hk : Od.sn a k = true) : ∃ c : Nat, c < (Od.OD a).length ∧ (Od.OD a).getD c 0 = k ∧ co a k = (c : Int) := by
  obtain ⟨c, h1, h2, h3⟩ := Od.seen_col hf hk
  refine ⟨c, h1, h2, ?_⟩
  unfold co
  rw [Od.CO_at (Od.sn_at hk).1]
  exact h3
theorem co_at {a : List Int} (hf : Od.Fo a) {c : Nat} (hc : c < (Od.OD a).length) : co a ((Od.OD a).getD c 0) = (c : Int) := by
  have hs := ((Od.OD_vis hf).mem _).1 (Od.OD_in hc)
  obtain ⟨d, h1, h2, h3⟩ := co_seen hf hs
  rw [h3, Od.OD_once hf h1 hc h2]
/-- The spot of a place, as two whole numbers. -/
def ln (a : List Int) (i : Nat) : Int := if nx a i = i then 1 - 2 * (a.getD i 0 % 2) else 0
def sp (a : List Int) (i : Nat) : Int × Int := (co a (nx a i), ln a i)
def SP (a : List Int) : List (Int × Int) := (List.range a.length).map (sp a)
theorem SP_len (a : List Int) : (SP a).length = a.length := by simp [SP]
theorem SP_at (a : List Int) {i : Nat} (h : i < a.length) : (SP a).getD i (0, 0) = sp a i := by simp [SP, List.getD, h]
theorem ln_seen {a : List Int} (h : End a) {i : Nat} (hi : i < a.length) : ¬ ln a i = 0 ↔ 0 ≤ a.getD i 0 := by
  rw [← nx_self h hi]
  unfold ln
  by_cases e : nx a i = i
  · rw [if_pos e]; exact ⟨fun _ => e, fun _ => by omega⟩
  · rw [if_neg e]; exact ⟨fun q => absurd rfl q, fun q => absurd q e⟩
theorem ln_cases (a : List Int) (i : Nat) : ln a i = 0 ∨ ln a i = 1 ∨ ln a i = -1 := by
  unfold ln
  split <;> omega
/-- The first stop in a column. -/
def Cd (Z : List (Int × Int)) (c : Int) (k : Nat) : Prop := ¬ (Z.getD k (0, 0)).2 = 0 ∧ (Z.getD k (0, 0)).1 = c
instance (Z : List (Int × Int)) (c : Int) (k : Nat) : Decidable (Cd Z c k) := by unfold Cd; exact inferInstance
def FIf (Z : List (Int × Int)) (c : Int) : Nat → Nat → Option Nat
  | 0, _ => none
  | d + 1, i => if Cd Z c i then some i else FIf Z c d (i + 1)
def FI (Z : List (Int × Int)) (c : Int) : Option Nat := FIf Z c Z.length 0
theorem FIf_skip {Z : List (Int × Int)} {c : Int} : ∀ d i n, (∀ j, i ≤ j → j < i + d → ¬ Cd Z c j) → FIf Z c (d + n) i = FIf Z c n (i + d)
  | 0, i, n, _ => by simp
  | d + 1, i, n, h => by
    rw [show d + 1 + n = (d + n) + 1 by omega, FIf, if_neg (h i (Nat.le_refl _) (by omega)), FIf_skip d (i + 1) n fun j h1 h2 => h j (by omega) (by omega)]
    congr 1
    omega
theorem FI_none {Z : List (Int × Int)} {c : Int} (h : ∀ j, j < Z.length → ¬ Cd Z c j) : FI Z c = none := by
  have := FIf_skip (Z := Z) (c := c) Z.length 0 0 fun j _ h2 => h j (by omega)
  rw [Nat.add_zero] at this
  exact this
theorem FI_some {Z : List (Int × Int)} {c : Int} {k : Nat} (hk : k < Z.length) (hc : Cd Z c k) (h : ∀ j, j < k → ¬ Cd Z c j) : FI Z c = some k := by
  have := FIf_skip (Z := Z) (c := c) k 0 (Z.length - k) fun j _ h2 => h j (by omega)
  rw [show k + (Z.length - k) = Z.length by omega, Nat.zero_add] at this
  unfold FI
  rw [this, show Z.length - k = (Z.length - k - 1) + 1 by omega, FIf, if_pos hc]
theorem FI_cases (Z : List (Int × Int)) (c : Int) : (FI Z c = none ∧ ∀ j, j < Z.length → ¬ Cd Z c j) ∨ ∃ k, k < Z.length ∧ FI Z c = some k ∧ Cd Z c k ∧ ∀ j, j < k → ¬ Cd Z c j := by
  by_cases h : ∃ k, k < Z.length ∧ Cd Z c k
  · have hh : ∀ n, (∃ k, k < n ∧ k < Z.length ∧ Cd Z c k) → ∃ k, k < Z.length ∧ Cd Z c k ∧ ∀ j, j < k → ¬ Cd Z c j := by
      intro n
      induction n with
      | zero => rintro ⟨k, hk, _⟩; omega
      | succ n ih =>
        rintro ⟨k, h1, h2, h3⟩
        by_cases q : ∃ k, k < n ∧ k < Z.length ∧ Cd Z c k
        · exact ih q
        · refine ⟨k, h2, h3, fun j hj hc => q ⟨j, by omega, by omega, hc⟩⟩
    obtain ⟨k, h1, h2⟩ := h
    obtain ⟨k, g1, g2, g3⟩ := hh Z.length ⟨k, h1, h1, h2⟩
    exact .inr ⟨k, g1, FI_some g1 g2 g3, g2, g3⟩
  · have hn : ∀ j, j < Z.length → ¬ Cd Z c j := fun j hj hc => h ⟨j, hj, hc⟩
    exact .inl ⟨FI_none hn, hn⟩
theorem FI_same {Z Y : List (Int × Int)} {c e : Int} (hl : Z.length = Y.length) (h : ∀ j, j < Z.length → (Cd Z c j ↔ Cd Y e j)) : FI Z c = FI Y e := by
  rcases FI_cases Y e with ⟨h1, h2⟩ | ⟨k, h1, h2, h3, h4⟩
  · rw [h1]
    exact FI_none fun j hj q => h2 j (by omega) ((h j hj).1 q)
  · rw [h2]
    exact FI_some (by omega) ((h k (by omega)).2 h3) fun j hj q => h4 j hj ((h j (by omega)).1 q)
theorem Cd_SP {a : List Int} (he : End a) {i : Nat} (hi : i < a.length) {c : Int} : Cd (SP a) c i ↔ (0 ≤ a.getD i 0 ∧ co a i = c) := by
  unfold Cd
  rw [SP_at a hi]
  constructor
  · rintro ⟨h1, h2⟩
    have h3 := (ln_seen he hi).1 h1
    have h4 := (nx_self he hi).2 h3
    unfold sp at h2
    rw [h4] at h2
    exact ⟨h3, h2⟩
  · rintro ⟨h1, h2⟩
    have h4 := (nx_self he hi).2 h1
    exact ⟨(ln_seen he hi).2 h1, by unfold sp; rw [h4]; exact h2⟩
section
variable {a : List Int} (hf : Od.Fo a) (he : End a)
include hf he
/-- Each column has just one stop. -/
theorem FI_SP {c : Nat} (hc : c < (Od.OD a).length) : FI (SP a) (c : Int) = some ((Od.OD a).getD c 0) := by
  have hs := ((Od.OD_vis hf).mem _).1 (Od.OD_in hc)
  have hlt := (Od.sn_at hs).1
  refine FI_some (by rw [SP_len]; exact hlt) ((Cd_SP he hlt).2 ⟨(Od.sn_at hs).2, co_at hf hc⟩) fun j hj q => ?_
  obtain ⟨q1, q2⟩ := (Cd_SP he (by omega)).1 q
  obtain ⟨d, h1, h2, h3⟩ := co_seen hf (Od.sn_of q1 (by omega))
  have : d = c := by omega
  subst this
  omega
theorem FI_out {c : Int} (hc : c < 0 ∨ ((Od.OD a).length : Int) ≤ c) : FI (SP a) c = none := FI_none fun j hj q => by
  rw [SP_len] at hj
  obtain ⟨q1, q2⟩ := (Cd_SP he hj).1 q
  obtain ⟨d, h1, h2, h3⟩ := co_seen hf (Od.sn_of q1 hj)
  omega
theorem OD_pos : 0 < (Od.OD a).length := by
  obtain ⟨d, h1, _⟩ := co_seen hf (Od.sn_of he.2 (show a.length - 1 < a.length by have := he.1; omega))
  omega
/-- The column of any place's spot. -/
theorem col_range {i : Nat} (hi : i < a.length) : ∃ c : Nat, c < (Od.OD a).length ∧ (Od.OD a).getD c 0 = nx a i ∧ (sp a i).1 = (c : Int) := co_seen hf (nx_ok he hi).2.2.1
end
/-- A step: the place, and the error. -/
def ST (Z : List (Int × Int)) (i s : Int) : Int × Int :=
  if i < 0 ∨ (Z.length : Int) ≤ i ∨ (¬ s = 1 ∧ ¬ s = -1) then (0, 4) else match FI Z ((Z.getD i.toNat (0, 0)).1 + s) with | some k => ((k : Int), 0) | none => (0, 150)
/-- Offset, of whole parts. -/
def OF (Z : List (Int × Int)) (x y : Int) : Int × Int :=
  if ¬ y = 1 ∧ ¬ y = -1 then (0, 4) else match FI Z x with | some k => ((k : Int), 0) | none => (0, 150)
theorem ST_in {Z : List (Int × Int)} {i : Nat} {s : Int} (hi : i < Z.length) (hs : s = 1 ∨ s = -1) : ST Z (i : Int) s = match FI Z ((Z.getD i (0, 0)).1 + s) with | some k => ((k : Int), 0) | none => (0, 150) := by
  unfold ST
  rw [if_neg (by omega), Int.toNat_natCast]
section
variable {a : List Int} (hf : Od.Fo a) (he : End a)
include hf he
/-- A step from a place of a line. -/
theorem ST_SP {i c : Nat} (hi : i < a.length) (hc : (sp a i).1 = (c : Int)) (hcm : c < (Od.OD a).length) :
    ST (SP a) (i : Int) 1 = (if c + 1 < (Od.OD a).length then (((Od.OD a).getD (c + 1) 0 : Nat) : Int) else 0, if c + 1 < (Od.OD a).length then 0 else 150) ∧
    ST (SP a) (i : Int) (-1) = (if 0 < c then (((Od.OD a).getD (c - 1) 0 : Nat) : Int) else 0, if 0 < c then 0 else 150) := by
  have hil : i < (SP a).length := by rw [SP_len]; exact hi
  constructor
  · rw [ST_in hil (.inl rfl), SP_at a hi, hc]
    by_cases h : c + 1 < (Od.OD a).length
    · rw [if_pos h, if_pos h, show (c : Int) + 1 = ((c + 1 : Nat) : Int) by omega, FI_SP hf he h]
    · rw [if_neg h, if_neg h, FI_out hf he (by omega)]
  · rw [ST_in hil (.inr rfl), SP_at a hi, hc]
    by_cases h : 0 < c
    · rw [if_pos h, if_pos h, show (c : Int) + -1 = ((c - 1 : Nat) : Int) by omega, FI_SP hf he (by omega)]
    · rw [if_neg h, if_neg h, FI_out hf he (by omega)]
end
/-- A line in a mirror. -/
def cnt (Z : List (Int × Int)) : Nat := (Z.filter fun p => decide (¬ p.2 = 0)).length
def FP (Z : List (Int × Int)) : List (Int × Int) := Z.map fun p => ((cnt Z : Int) - 1 - p.1, -p.2)
theorem FP_len (Z : List (Int × Int)) : (FP Z).length = Z.length := by simp [FP]
theorem FP_at (Z : List (Int × Int)) {i : Nat} (h : i < Z.length) : (FP Z).getD i (0, 0) = ((cnt Z : Int) - 1 - (Z.getD i (0, 0)).1, -(Z.getD i (0, 0)).2) := by simp [FP, List.getD, h]
theorem cnt_FP (Z : List (Int × Int)) : cnt (FP Z) = cnt Z := by
  unfold FP cnt
  rw [List.filter_map, List.length_map]
  congr 1
  refine List.filter_congr fun p _ => ?_
  simp
theorem FP_twice (Z : List (Int × Int)) : FP (FP Z) = Z := by
  refine List.ext_getElem (by rw [FP_len, FP_len]) fun i h1 h2 => ?_
  have e : (FP (FP Z)).getD i (0, 0) = Z.getD i (0, 0) := by
    rw [FP_at _ (by rw [FP_len]; exact h2), FP_at _ h2, cnt_FP]
    refine Prod.ext ?_ ?_
    · show (cnt Z : Int) - 1 - ((cnt Z : Int) - 1 - _) = _
      omega
    · show - - _ = _
      omega
  simpa [List.getD, h1, h2] using e
theorem FI_FP (Z : List (Int × Int)) (c : Int) : FI (FP Z) c = FI Z ((cnt Z : Int) - 1 - c) := FI_same (FP_len Z) fun j hj => by
  rw [FP_len] at hj
  unfold Cd
  rw [FP_at _ hj]
  constructor
  · rintro ⟨h1, h2⟩
    exact ⟨fun q => h1 (by show -_ = _; omega), by have h3 : (cnt Z : Int) - 1 - (Z.getD j (0, 0)).1 = c := h2; omega⟩
  · rintro ⟨h1, h2⟩
    exact ⟨fun q => h1 (by have h3 : -(Z.getD j (0, 0)).2 = 0 := q; omega), by show (cnt Z : Int) - 1 - _ = c; omega⟩
theorem ST_FP (Z : List (Int × Int)) (i s : Int) : ST (FP Z) i (-s) = ST Z i s := by
  unfold ST
  rw [FP_len]
  by_cases h : i < 0 ∨ (Z.length : Int) ≤ i ∨ (¬ s = 1 ∧ ¬ s = -1)
  · rw [if_pos h, if_pos (by omega)]
  · rw [if_neg h, if_neg (by omega), FI_FP, FP_at _ (by omega)]
    show (match FI Z ((cnt Z : Int) - 1 - (((cnt Z : Int) - 1 - _) + -s)) with | some k => ((k : Int), (0 : Int)) | none => (0, 150)) = _
    rw [show (cnt Z : Int) - 1 - (((cnt Z : Int) - 1 - (Z.getD i.toNat (0, 0)).1) + -s) = (Z.getD i.toNat (0, 0)).1 + s by omega]
end Spt
end Go.Proofs.YthkmbnbkipomiaaGreatDoor

/- Lines of one parity; a walk through a line, and what is shown of it: plain mathematics. -/
namespace Go.Proofs.YthkmbnbkipomiaaGreatDoor
set_option linter.unusedVariables false
namespace Spt
theorem OD_evens {a : List Int} (hf : Od.Fo a) (h : ∀ i, i < a.length → 0 ≤ a.getD i 0 ∧ a.getD i 0 % 2 = 0) : Od.OD a = List.range a.length := by
  have hsn : ∀ z, Od.sn a z = true ↔ z < a.length := fun z => ⟨fun q => (Od.sn_at q).1, fun q => Od.sn_of (h z q).1 q⟩
  refine Od.Vis.eq (Od.OD_vis hf) ⟨?_, fun z => by rw [List.mem_range, hsn]⟩
  refine List.pairwise_lt_range.imp_of_mem ?_
  intro i j hi hj hij
  rw [List.mem_range] at hi hj
  obtain ⟨z, hz, _, e⟩ := Od.le_is (h i hi).1 (h j hj).1
  unfold Od.Lf
  rw [e, if_pos (h z (by omega)).2]
  exact hij
theorem OD_odds {a : List Int} (hf : Od.Fo a) (h : ∀ i, i < a.length → 0 ≤ a.getD i 0 ∧ a.getD i 0 % 2 = 1) : Od.OD a = (List.range a.length).reverse := by
  have hsn : ∀ z, Od.sn a z = true ↔ z < a.length := fun z => ⟨fun q => (Od.sn_at q).1, fun q => Od.sn_of (h z q).1 q⟩
  refine Od.Vis.eq (Od.OD_vis hf) ⟨List.pairwise_reverse.2 ?_, fun z => by rw [List.mem_reverse, List.mem_range, hsn]⟩
  refine List.pairwise_lt_range.imp_of_mem ?_
  intro i j hi hj hij
  rw [List.mem_range] at hi hj
  obtain ⟨z, hz, _, e⟩ := Od.le_is (h j hj).1 (h i hi).1
  unfold Od.Lf
  rw [e, if_neg (by have := (h z (by omega)).2; omega)]
  exact hij
theorem sn_al {l : List Int} {b : Int} {i : Nat} (h : i < l.length) : Od.sn (al l b) i = Od.sn l i := by
  unfold Od.sn
  rw [al_at h, al_len]
  simp [h, Nat.lt_succ_of_lt h]
theorem le_al {l : List Int} {b : Int} {x y : Nat} (hx : Od.sn l x = true) (hy : Od.sn l y = true) : Od.le (al l b) x y = Od.le l x y := by
  obtain ⟨x1, x2⟩ := Od.sn_at hx
  obtain ⟨y1, y2⟩ := Od.sn_at hy
  have x3 : 0 ≤ (al l b).getD x 0 := by rw [al_at x1]; exact x2
  have y3 : 0 ≤ (al l b).getD y 0 := by rw [al_at y1]; exact y2
  obtain ⟨z, hz, z0, e⟩ := Od.le_is x2 y2
  obtain ⟨u, hu, u0, f⟩ := Od.le_is x3 y3
  have h1 : Od.le (al l b) x y ≤ (al l b).getD z 0 := Od.le_le x3 y3 (by rw [al_at (by omega)]; exact z0) hz
  have h2 : Od.le l x y ≤ l.getD u 0 := by
    rw [al_at (by omega)] at u0
    exact Od.le_le x2 y2 u0 hu
  rw [al_at (by omega)] at h1 f
  omega
/-- The visual order with the end, without it. -/
theorem OD_cut {l : List Int} {b : Int} (hb : b = 0 ∨ b = 1) (hf : Od.Fo l) : (Od.OD (al l b)).filter (fun x => decide (x < l.length)) = Od.OD l := by
  have hv := Od.OD_vis ((al_fo hb).2 hf)
  refine Od.Vis.eq ⟨?_, fun z => ?_⟩ (Od.OD_vis hf)
  · refine (List.Pairwise.filter _ hv.pw).imp_of_mem ?_
    intro x y hx hy h
    obtain ⟨hx1, hx2⟩ := List.mem_filter.1 hx
    obtain ⟨hy1, hy2⟩ := List.mem_filter.1 hy
    have hx3 := (hv.mem x).1 hx1
    have hy3 := (hv.mem y).1 hy1
    rw [sn_al (of_decide_eq_true hx2)] at hx3
    rw [sn_al (of_decide_eq_true hy2)] at hy3
    unfold Od.Lf at h ⊢
    rwa [le_al hx3 hy3] at h
  · rw [List.mem_filter, hv.mem]
    constructor
    · rintro ⟨h1, h2⟩
      rwa [sn_al (of_decide_eq_true h2)] at h1
    · intro h
      have := (Od.sn_at h).1
      exact ⟨by rw [sn_al this]; exact h, decide_eq_true this⟩
theorem OD_cut_len {l : List Int} {b : Int} (hb : b = 0 ∨ b = 1) : (Od.OD (al l b)).length = (Od.OD l).length + 1 := by
  rw [Od.OD_len, Od.OD_len]
  unfold Od.K
  rw [al_len, List.range_succ, List.filter_append, List.length_append]
  have h1 : (List.range l.length).filter (Od.sn (al l b)) = (List.range l.length).filter (Od.sn l) := List.filter_congr fun x hx => sn_al (List.mem_range.1 hx)
  have h2 : Od.sn (al l b) l.length = true := Od.sn_of (by rw [al_end]; omega) (by rw [al_len]; omega)
  rw [h1]
  simp [h2]
/-- How many of the first n hold. -/
def kc (P : List Nat) (p : Nat → Bool) (n : Nat) : Nat := ((P.take n).filter p).length
theorem kc_zero (P : List Nat) (p : Nat → Bool) : kc P p 0 = 0 := rfl
theorem kc_step {P : List Nat} {p : Nat → Bool} {n : Nat} (hn : n < P.length) : kc P p (n + 1) = kc P p n + (if p (P.getD n 0) = true then 1 else 0) := by
  unfold kc
  rw [List.take_succ_eq_append_getElem hn, List.filter_append, List.length_append]
  have e : P.getD n 0 = P[n] := by simp [List.getD, hn]
  rw [e]
  by_cases h : p P[n] = true
  · simp [h]
  · simp [h]
theorem kc_all (P : List Nat) (p : Nat → Bool) : kc P p P.length = (P.filter p).length := by unfold kc; rw [List.take_length]
theorem filter_at {P : List Nat} {p : Nat → Bool} {n : Nat} (hn : n < P.length) (h : p (P.getD n 0) = true) : kc P p n < (P.filter p).length ∧ (P.filter p).getD (kc P p n) 0 = P.getD n 0 := by
  have e : P.getD n 0 = P[n] := by simp [List.getD, hn]
  have hP : P.filter p = (P.take n).filter p ++ P[n] :: (P.drop (n + 1)).filter p := by
    have h2 : P = P.take n ++ P[n] :: P.drop (n + 1) := by rw [← List.drop_eq_getElem_cons hn, List.take_append_drop]
    have h3 := congrArg (List.filter p) h2
    rw [e] at h
    rw [List.filter_append, List.filter_cons_of_pos h] at h3
    exact h3
  rw [hP]
  unfold kc
  constructor
  · rw [List.length_append]; simp
  · rw [e]
    simp [List.getD]
end Spt
end Go.Proofs.YthkmbnbkipomiaaGreatDoor

/- Complex numbers of whole parts: how they are compared, added, taken from one another; rows of them. -/
namespace Go.Proofs.YthkmbnbkipomiaaGreatDoor
open Go.RowKit
set_option linter.unusedVariables false
namespace Fl
theorem eq_fb {a b : Int} (ha : a.natAbs < 2 ^ 53) (hb : b.natAbs < 2 ^ 53) : (FloatKind.f64.format.order (fb a) (fb b) == some .eq) = decide (a = b) := by
  rw [order_fb ha hb]
  show (some (compareOfLessAndEq a b) == some Ordering.eq) = _
  unfold compareOfLessAndEq
  rcases Int.lt_trichotomy a b with q | q | q
  · rw [if_pos q, decide_eq_false (by omega)]; rfl
  · subst q; rw [if_neg (Int.lt_irrefl _), if_pos rfl, decide_eq_true rfl]; rfl
  · rw [if_neg (by omega), if_neg (by omega), decide_eq_false (by omega)]; rfl
theorem ne_fb {a b : Int} (ha : a.natAbs < 2 ^ 53) (hb : b.natAbs < 2 ^ 53) : (FloatKind.f64.format.order (fb a) (fb b) != some .eq) = !decide (a = b) := by
  unfold bne
  rw [eq_fb ha hb]
theorem ne_zero {a : Int} (ha : a.natAbs < 2 ^ 53) : (FloatKind.f64.format.order (fb a) 0 != some .eq) = !decide (a = 0) := by
  have := ne_fb ha (b := 0) (by decide)
  rwa [fb_zero] at this
theorem ne_one {a : Int} (ha : a.natAbs < 2 ^ 53) : (FloatKind.f64.format.order (fb a) 4607182418800017408 != some .eq) = !decide (a = 1) := by
  have := ne_fb ha (b := 1) (by decide)
  rwa [fb_one] at this
theorem ne_neg {a : Int} (ha : a.natAbs < 2 ^ 53) : (FloatKind.f64.format.order (fb a) 13830554455654793216 != some .eq) = !decide (a = -1) := by
  have := ne_fb ha (b := -1) (by decide)
  rwa [fb_neg] at this
section
variable {P : Program} (w : World) (t : TypeId) {a b c d : Int} (ha : a.natAbs < 2 ^ 53) (hb : b.natAbs < 2 ^ 53) (hc : c.natAbs < 2 ^ 53) (hd : d.natAbs < 2 ^ 53)
include ha hb hc hd
theorem run_cadd (h1 : (a + c).natAbs < 2 ^ 53) (h2 : (b + d).natAbs < 2 ^ 53) : (binOp .add t (.complex .f64 (fb a) (fb b)) (.complex .f64 (fb c) (fb d))).run P w = .ok (.complex .f64 (fb (a + c)) (fb (b + d))) w := by
  refine run_complex_sum w .add (.inl rfl) t .f64 _ _ _ _ _ _ ?_
  unfold cSumBits
  rw [add_fb ha hc h1, add_fb hb hd h2]
  rfl
theorem run_csub (h1 : (a - c).natAbs < 2 ^ 53) (h2 : (b - d).natAbs < 2 ^ 53) : (binOp .sub t (.complex .f64 (fb a) (fb b)) (.complex .f64 (fb c) (fb d))).run P w = .ok (.complex .f64 (fb (a - c)) (fb (b - d))) w := by
  refine run_complex_sum w .sub (.inr rfl) t .f64 _ _ _ _ _ _ ?_
  unfold cSumBits
  rw [sub_fb ha hc h1, sub_fb hb hd h2]
  rfl
end
end Fl
/-- Spots whose columns are below a bound. -/
def Wz (B : Nat) (Z : List (Int × Int)) : Prop := ∀ i, (Z.getD i (0, 0)).1.natAbs < B ∧ (Z.getD i (0, 0)).2.natAbs ≤ 1
/-- A row of spots. -/
def ZR (w : World) (ao : Option Addr) (n cap : Nat) (Z : List (Int × Int)) : Prop := VR (cv Fl.fb) (0, 0) w ao n cap Z
theorem ZR.len {w : World} {ao : Option Addr} {n cap : Nat} {Z : List (Int × Int)} (h : ZR w ao n cap Z) : Z.length = n := VR.len h
theorem ZR.room {w : World} {ao : Option Addr} {n cap : Nat} {Z : List (Int × Int)} (h : ZR w ao n cap Z) : n ≤ 9223372036854775807 := by
  have := Nat.le_trans (VR.le h) (VR.max h)
  unfold maxLen at this
  omega
theorem ZR.below {w w' : World} {ao : Option Addr} {n cap : Nat} {Z : List (Int × Int)} (h : ZR w ao n cap Z) (hb : KO w w') : ZR w' ao n cap Z := VR.below h hb
theorem ZR.at {w : World} {ao : Option Addr} {n cap : Nat} {Z : List (Int × Int)} (h : ZR w ao n cap Z) (h0 : 0 < n) : ∃ b off, ao = some ⟨b, off, none⟩ ∧ b < w.heap.size ∧ ∀ i, i < n → w.cell? ⟨b, off + i, none⟩ = some (.complex .f64 (Fl.fb (Z.getD i (0, 0)).1) (Fl.fb (Z.getD i (0, 0)).2)) := by
  obtain ⟨b, off, e, hb, hc⟩ := VR.cells h h0
  exact ⟨b, off, e, hb, fun i hi => hc i (by rw [VR.len h]; exact hi)⟩
theorem infoC : (Tryz.prog.info? 55).map (fun i => (i.zero, i.size, i.bytes)) = some (some (.complex .f64 0 0), 1, 16) := by kernel_rfl
/-- A complex number into a cell. -/
theorem store_complex {P : Program} {W : World} {g j : Nat} {v : Value} (hc : W.cell? ⟨g, j, none⟩ = some v) (hf : W.frozen? ⟨g, j, none⟩ = false) (k : FloatKind) (a b : Nat) : (store ⟨g, j, none⟩ (.complex k a b)).run P W = .ok () (W.setCell ⟨g, j, none⟩ (.complex k a b)) := by
  rw [run_store _ _ _ _ _ rfl, hc, hf]
  rfl
/-- A row of values that a call makes and fills place by place. -/
structure VN {α : Type} (f : α → Value) (d : α) (e : TypeId) (w : World) (n : Nat) (zs : List α) (wr : World) : Prop where
  own : wr.ownsRow w.heap.size e 1 (.slice (some ⟨w.heap.size, 0, none⟩) n n) n (zs.map f)
  bel : Below w.heap.size w wr
section
variable {α : Type} {f : α → Value} {d : α} {e : TypeId} {w wr : World} {n : Nat} {zs : List α}
theorem VN.set (h : VN f d e w n zs wr) (j : Nat) (y : α) : VN f d e w n (zs.set j y) (wr.setCell ⟨w.heap.size, j, none⟩ (f y)) :=
  ⟨vown_set h.own j y, h.bel.setCell (p := ⟨w.heap.size, j, none⟩) (Nat.le_refl _) _⟩
theorem VN.cell (h : VN f d e w n zs wr) {j : Nat} (hj : j < n) : wr.cell? ⟨w.heap.size, j, none⟩ = some (f (zs.getD j d)) := vown_cell h.own j hj
theorem VN.fz (h : VN f d e w n zs wr) (j : Nat) : wr.frozen? ⟨w.heap.size, j, none⟩ = false := h.own.frozenAt j
theorem VN.made {z : α} (hown : wr.ownsRow w.heap.size e 1 (.slice (some ⟨w.heap.size, 0, none⟩) n n) n (madeCells #[f z] n).toList) (hb : Below w.heap.size w wr) : VN f d e w n (List.replicate n z) wr := by
  refine ⟨?_, hb⟩
  have e2 : (madeCells #[f z] n).toList = (List.replicate n z).map f := by simp [toList_madeCells_one]
  rw [← e2]
  exact hown
theorem VN.row (h : VN f d e w n zs wr) : VR f d wr (some ⟨w.heap.size, 0, none⟩) n n zs := by
  obtain ⟨ao, c, e1, hr⟩ := VR.of_owns (d := d) h.own
  simp only [Value.slice.injEq] at e1
  obtain ⟨rfl, _, rfl⟩ := e1
  exact hr
theorem VN.keep (h : VN f d e w n zs wr) {w2 : World} (hb : KO wr w2) : VN f d e w n zs w2 :=
  ⟨owns_below h.own hb, KO.on h.bel hb⟩
end
end Go.Proofs.YthkmbnbkipomiaaGreatDoor

/- How a stop is sought: by contract. -/
namespace Go.Proofs.YthkmbnbkipomiaaGreatDoor
open Go.RowKit
set_option linter.unusedVariables false
set_option maxHeartbeats 1000000
set_option maxRecDepth 100000
theorem isStop_any (x y : Int) (w : World) (hy : y.natAbs < 2 ^ 53) : Calls Tryz.prog 41 #[.complex .f64 (Fl.fb x) (Fl.fb y)] w fun e w' => e = .returned (.bool (!decide (y = 0))) ∧ w = w' := by
  have h := Fl.ne_zero hy
  generalize Fl.fb x = X at *
  generalize Fl.fb y = Y at *
  generalize (!decide (y = 0)) = q at *
  go_enter Tryz.func41, Tryz.ntmps41
  go_wp2
  go_ret
  exact ⟨rfl, rfl⟩
/-- What is sought: a stop in a column. -/
theorem sought_any (x y c : Int) (I b : Nat) (w : World) (hx : x.natAbs < 2 ^ 53) (hy : y.natAbs < 2 ^ 53) (hc : c.natAbs < 2 ^ 53) (hb : w.cell? ⟨b, 0, none⟩ = some (.complex .f64 (Fl.fb c) I)) :
    Calls Tryz.prog 40 #[.complex .f64 (Fl.fb x) (Fl.fb y), .pointer (some ⟨b, 0, none⟩)] w fun e w' => e = .returned (.bool (decide (¬ y = 0 ∧ x = c))) ∧ w = w' := by
  have HS := hide (isStop_any x y w hy)
  have h := Fl.eq_fb hx hc
  by_cases h0 : y = 0
  · rw [decide_eq_true h0] at HS
    rw [decide_eq_false (show ¬ (¬ y = 0 ∧ x = c) from fun q => q.1 h0)]
    clear h h0 hx hy hc
    generalize Fl.fb x = X at *
    generalize Fl.fb y = Y at *
    generalize Fl.fb c = C at *
    simp only [Bool.not_true] at HS
    go_enter Tryz.func40, Tryz.ntmps40
    go_wp2_with (go_at_call 41; refine HS.out.mono ?_; rintro e w' ⟨rfl, rfl⟩)
    go_ret
    exact ⟨rfl, rfl⟩
  · rw [decide_eq_false h0] at HS
    have e : decide (¬ y = 0 ∧ x = c) = decide (x = c) := by simp [h0]
    rw [e]
    clear h0 hx hy hc e
    simp only [Bool.not_false] at HS
    generalize Fl.fb x = X at *
    generalize Fl.fb y = Y at *
    generalize Fl.fb c = C at *
    generalize decide (x = c) = q at *
    go_enter Tryz.func40, Tryz.ntmps40
    go_wp2_with (go_at_call 41; refine HS.out.mono ?_; rintro e w' ⟨rfl, rfl⟩)
    go_ret
    exact ⟨rfl, rfl⟩
/-- The first stop's place, or -1. -/
def FX (Z : List (Int × Int)) (c : Int) : Int := match Spt.FI Z c with | some k => (k : Int) | none => -1
theorem FX_some {Z : List (Int × Int)} {c : Int} {k : Nat} (hk : k < Z.length) (hc : Spt.Cd Z c k) (h : ∀ j, j < k → ¬ Spt.Cd Z c j) : FX Z c = (k : Int) := by unfold FX; rw [Spt.FI_some hk hc h]
theorem FX_none {Z : List (Int × Int)} {c : Int} (h : ∀ j, j < Z.length → ¬ Spt.Cd Z c j) : FX Z c = -1 := by unfold FX; rw [Spt.FI_none h]
theorem index_any (Z : List (Int × Int)) (c : Int) (B : Nat) (hB : B ≤ 4503599627370496) (hZ : Wz B Z) (hc : c.natAbs < 2 ^ 53) (ao : Option Addr) (n cap : Nat) (w : World) (h : ZR w ao n cap Z) (I b : Nat) (hb : w.cell? ⟨b, 0, none⟩ = some (.complex .f64 (Fl.fb c) I)) :
    Calls Tryz.prog 39 #[.slice ao n cap, .func (.func 40) #[] #[.pointer (some ⟨b, 0, none⟩)]] w fun e w' => e = .returned (.int .i64 (FX Z c)) ∧ w = w' := by
  have HF : Hid (∀ k, Calls Tryz.prog 40 #[.complex .f64 (Fl.fb (Z.getD k (0, 0)).1) (Fl.fb (Z.getD k (0, 0)).2), .pointer (some ⟨b, 0, none⟩)] w fun e w' => e = .returned (.bool (decide (Spt.Cd Z c k))) ∧ w = w') :=
    hide fun k => (sought_any _ _ c I b w (by have := (hZ k).1; omega) (by have := (hZ k).2; omega) hc hb)
  have HL := hide h.len
  have HR := hide h
  have hm := h.room
  clear hZ hc hb h
  go_enter Tryz.func39, Tryz.ntmps39
  go_wp2
  go_loop [8] (fun s8 => ∃ k : Nat, s8 = .int .i64 (k : Int) ∧ k ≤ n ∧ Hid (∀ j, j < k → ¬ Spt.Cd Z c j)) (fun s8 => n - (intOf s8).toNat)
  case atStart => exact ⟨0, rfl, Nat.zero_le _, hide fun j hj => absurd hj (Nat.not_lt_zero _)⟩
  case round =>
    obtain ⟨k, rfl, hk, hall⟩ := hrel
    by_cases hlt : k < n
    · have hin : (k : Int) < (n : Int) := by omega
      obtain ⟨b0, off, rfl, _, hcl⟩ := HR.out.at (by omega)
      have ck := hcl k hlt
      have HFk := hide (HF.out k)
      by_cases hq : Spt.Cd Z c k
      · rw [decide_eq_true hq] at HFk
        have HX := hide (FX_some (by rw [HL.out]; exact hlt) hq hall.out)
        clear hq hall hcl
        generalize Fl.fb (Z.getD k (0, 0)).1 = X at *
        generalize Fl.fb (Z.getD k (0, 0)).2 = Y at *
        go_wp2_with (go_at_call 40; refine HFk.out.mono ?_; rintro e w' ⟨rfl, rfl⟩)
        go_ret
        exact ⟨by rw [HX.out]; rfl, rfl⟩
      · rw [decide_eq_false hq] at HFk
        have HX : Hid (∀ j, j < k + 1 → ¬ Spt.Cd Z c j) := hide fun j hj => by
          by_cases e : j = k
          · subst e; exact hq
          · exact hall.out j (by omega)
        clear hq hall hcl
        generalize Fl.fb (Z.getD k (0, 0)).1 = X at *
        generalize Fl.fb (Z.getD k (0, 0)).2 = Y at *
        go_wp2_with (go_at_call 40; refine HFk.out.mono ?_; rintro e w' ⟨rfl, rfl⟩)
        go_round
        case rel => exact ⟨k + 1, by go_num, by omega, HX⟩
        case measure => simp [intOf]; omega
    · obtain rfl : n = k := by omega
      have hne : ¬ (n : Int) < (n : Int) := by omega
      have HX := hide (FX_none (Z := Z) (c := c) (by rw [HL.out]; exact hall.out))
      go_wp2
      go_ret
      exact ⟨by rw [HX.out]; rfl, rfl⟩
/-- The first stop's place and the error. -/
def FA (Z : List (Int × Int)) (c : Int) : Int × Int := match Spt.FI Z c with | some k => ((k : Int), 0) | none => (0, 150)
theorem FX_FA (Z : List (Int × Int)) (c : Int) : (FX Z c < 0 ∧ FA Z c = (0, 150)) ∨ (0 ≤ FX Z c ∧ FA Z c = (FX Z c, 0)) := by
  unfold FX FA
  cases Spt.FI Z c with
  | none => exact .inl ⟨by show (-1 : Int) < 0; omega, rfl⟩
  | some k => exact .inr ⟨by show (0 : Int) ≤ (k : Int); omega, rfl⟩
theorem first_any (Z : List (Int × Int)) (c : Int) (B : Nat) (hB : B ≤ 4503599627370496) (hZ : Wz B Z) (hc : c.natAbs < 2 ^ 53) (ao : Option Addr) (n cap : Nat) (w : World) (h : ZR w ao n cap Z) (I b : Nat) (hb : w.cell? ⟨b, 0, none⟩ = some (.complex .f64 (Fl.fb c) I)) :
    Calls Tryz.prog 24 #[.slice ao n cap, .func (.func 40) #[] #[.pointer (some ⟨b, 0, none⟩)]] w fun e w' => e = .returned (.tuple #[.int .i64 (FA Z c).1, .int .i64 (FA Z c).2]) ∧ w = w' := by
  have HI := hide (index_any Z c B hB hZ hc ao n cap w h I b hb)
  clear hZ hc hb h
  rcases FX_FA Z c with ⟨h1, h2⟩ | ⟨h1, h2⟩
  · rw [h2]
    clear h2
    generalize FX Z c = X at *
    go_enter Tryz.func24, Tryz.ntmps24
    go_wp2_with (go_at_call 39; refine HI.out.mono ?_; rintro e w' ⟨rfl, rfl⟩)
    go_ret2
    exact ⟨rfl, rfl⟩
  · rw [h2]
    have h3 : ¬ FX Z c < 0 := by omega
    clear h2
    generalize FX Z c = X at *
    go_enter Tryz.func24, Tryz.ntmps24
    go_wp2_with (go_at_call 39; refine HI.out.mono ?_; rintro e w' ⟨rfl, rfl⟩)
    go_ret2
    exact ⟨rfl, rfl⟩
theorem stopAt_any (X I : Nat) (w : World) : Calls Tryz.prog 25 #[.complex .f64 X I] w fun e w' => e = .returned (.func (.func 40) #[] #[.pointer (some ⟨w.heap.size, 0, none⟩)]) ∧ w' = w.alloc (.cells #[.complex .f64 X I] 55) := by
  go_enter Tryz.func25, Tryz.ntmps25
  go_wp2
  go_ret
  exact ⟨rfl, rfl⟩
theorem OF_no {Z : List (Int × Int)} {x y : Int} (h : ¬ y = 1 ∧ ¬ y = -1) : Spt.OF Z x y = (0, 4) := by unfold Spt.OF; rw [if_pos h]
theorem OF_yes {Z : List (Int × Int)} {x y : Int} (h : y = 1 ∨ y = -1) : Spt.OF Z x y = FA Z x := by unfold Spt.OF FA; rw [if_neg (by omega)]; all_goals (cases Spt.FI Z x <;> rfl)
theorem ST_no {Z : List (Int × Int)} {i s : Int} (h : i < 0 ∨ (Z.length : Int) ≤ i ∨ (¬ s = 1 ∧ ¬ s = -1)) : Spt.ST Z i s = (0, 4) := by unfold Spt.ST; rw [if_pos h]
theorem ST_yes {Z : List (Int × Int)} {i : Nat} {s : Int} (hi : i < Z.length) (h : s = 1 ∨ s = -1) : Spt.ST Z (i : Int) s = FA Z ((Z.getD i (0, 0)).1 + s) := by rw [Spt.ST_in hi h]; rfl
theorem found_any (Z : List (Int × Int)) (c : Int) (B : Nat) (hB : B ≤ 4503599627370496) (hZ : Wz B Z) (hc : c.natAbs < 2 ^ 53) (ao : Option Addr) (n cap : Nat) (w : World) (h : ZR w ao n cap Z) (I : Nat) :
    Calls Tryz.prog 24 #[.slice ao n cap, .func (.func 40) #[] #[.pointer (some ⟨w.heap.size, 0, none⟩)]] (w.alloc (.cells #[.complex .f64 (Fl.fb c) I] 55)) fun e w' => e = .returned (.tuple #[.int .i64 (FA Z c).1, .int .i64 (FA Z c).2]) ∧ KO w w' := by
  refine (first_any Z c B hB hZ hc ao n cap _ (h.below (KO.alloc (KO.refl w) _)) I w.heap.size (by rw [World.cell?_alloc_at _ _ _ _ (by simp)]; rfl)).mono ?_
  rintro e w' ⟨rfl, rfl⟩
  exact ⟨rfl, KO.alloc (KO.refl w) _⟩
theorem offset_any (Z : List (Int × Int)) (x y : Int) (B : Nat) (hB : B ≤ 4503599627370496) (hZ : Wz B Z) (hx : x.natAbs < 2 ^ 53) (hy : y.natAbs < 2 ^ 53) (ao : Option Addr) (n cap : Nat) (w : World) (h : ZR w ao n cap Z) :
    Calls Tryz.prog 21 #[.slice ao n cap, .complex .f64 (Fl.fb x) (Fl.fb y)] w fun e w' => e = .returned (.tuple #[.int .i64 (Spt.OF Z x y).1, .int .i64 (Spt.OF Z x y).2]) ∧ KO w w' := by
  have HS := hide (stopAt_any (Fl.fb x) (Fl.fb y) w)
  have HG := hide (found_any Z x B hB hZ hx ao n cap w h (Fl.fb y))
  have h1 := Fl.ne_one hy
  have h2 := Fl.ne_neg hy
  clear hZ hx h
  by_cases q1 : y = 1
  · rw [OF_yes (.inl q1)]
    rw [decide_eq_true q1] at h1
    clear h2 hy q1
    generalize Fl.fb x = X at *
    generalize Fl.fb y = Y at *
    simp only [Bool.not_true] at h1
    go_enter Tryz.func21, Tryz.ntmps21
    go_wp2_with (first
      | (go_at_call 25; refine HS.out.mono ?_; rintro e w1 ⟨rfl, rfl⟩)
      | (go_at_call 24; refine HG.out.mono ?_; rintro e w2 ⟨rfl, hk2⟩; have HK2 := hide hk2; clear hk2))
    go_ret2
    exact ⟨rfl, HK2.out⟩
  · rw [decide_eq_false q1] at h1
    by_cases q2 : y = -1
    · rw [OF_yes (.inr q2)]
      rw [decide_eq_true q2] at h2
      clear hy q1 q2
      generalize Fl.fb x = X at *
      generalize Fl.fb y = Y at *
      simp only [Bool.not_true, Bool.not_false] at h1 h2
      go_enter Tryz.func21, Tryz.ntmps21
      go_wp2_with (first
        | (go_at_call 25; refine HS.out.mono ?_; rintro e w1 ⟨rfl, rfl⟩)
        | (go_at_call 24; refine HG.out.mono ?_; rintro e w2 ⟨rfl, hk2⟩; have HK2 := hide hk2; clear hk2))
      go_ret2
      exact ⟨rfl, HK2.out⟩
    · rw [OF_no ⟨q1, q2⟩]
      rw [decide_eq_false q2] at h2
      clear hy q1 q2 HS HG
      generalize Fl.fb x = X at *
      generalize Fl.fb y = Y at *
      simp only [Bool.not_false] at h1 h2
      go_enter Tryz.func21, Tryz.ntmps21
      go_wp2
      go_ret2
      exact ⟨rfl, KO.refl _⟩
theorem step_any (Z : List (Int × Int)) (i s : Int) (B : Nat) (hB : B ≤ 4503599627370496) (hZ : Wz B Z) (ao : Option Addr) (n cap : Nat) (w : World) (h : ZR w ao n cap Z) :
    Calls Tryz.prog 10 #[.slice ao n cap, .int .i64 i, .int .i64 s] w fun e w' => e = .returned (.tuple #[.int .i64 (Spt.ST Z i s).1, .int .i64 (Spt.ST Z i s).2]) ∧ KO w w' := by
  have hl := h.len
  have hm := h.room
  by_cases h1 : i < 0
  · rw [ST_no (.inl h1)]
    clear h hZ
    go_enter Tryz.func10, Tryz.ntmps10
    go_wp2
    go_ret2
    exact ⟨rfl, KO.refl _⟩
  by_cases h2 : (n : Int) ≤ i
  · rw [ST_no (.inr (.inl (by rw [hl]; exact h2)))]
    clear h hZ
    go_enter Tryz.func10, Tryz.ntmps10
    go_wp2
    go_ret2
    exact ⟨rfl, KO.refl _⟩
  by_cases h3 : ¬ s = 1 ∧ ¬ s = -1
  · rw [ST_no (.inr (.inr h3))]
    obtain ⟨h3, h4⟩ := h3
    have h3b : (s != 1) = true := bne_iff_ne.2 h3
    have h4b : (s != -1) = true := bne_iff_ne.2 h4
    clear h hZ hl
    go_enter Tryz.func10, Tryz.ntmps10
    go_wp2
    go_ret2
    exact ⟨rfl, KO.refl _⟩
  · have hs : s = 1 ∨ s = -1 := by omega
    obtain ⟨k, rfl⟩ : ∃ k : Nat, i = (k : Int) := ⟨i.toNat, by omega⟩
    have hk : k < n := by omega
    have hin : (k : Int) < (n : Int) := by omega
    rw [ST_yes (by rw [hl]; exact hk) hs]
    obtain ⟨b, off, rfl, _, hcl⟩ := h.at (by omega)
    have ck := hcl k hk
    have hz := hZ k
    generalize (Z.getD k (0, 0)).1 = x at *
    generalize (Z.getD k (0, 0)).2 = y at *
    have HS := hide (stopAt_any (Fl.fb (x + s)) (Fl.fb (y + 0)) w)
    have HG := hide (found_any Z (x + s) B hB hZ (by omega) _ n cap w h (Fl.fb (y + 0)))
    have hadd := Fl.run_cadd (P := Tryz.prog) w 55 (a := x) (b := y) (c := s) (d := 0) (by omega) (by omega) (by omega) (by omega) (by omega) (by omega)
    rw [Fl.fb_zero] at hadd
    generalize Fl.fb (x + s) = X1 at *
    generalize Fl.fb (y + 0) = Y1 at *
    generalize Fl.fb x = X at *
    generalize Fl.fb y = Y at *
    unfold Fl.fb at hadd
    clear hcl hZ hz h hl
    have h1' : ¬ (k : Int) < 0 := by omega
    rcases hs with rfl | rfl
    · have q1 : ((1 : Int) != 1) = false := rfl
      go_enter Tryz.func10, Tryz.ntmps10
      go_wp2_with (first
        | (go_at_call 25; refine HS.out.mono ?_; rintro e w1 ⟨rfl, rfl⟩)
        | (go_at_call 24; refine HG.out.mono ?_; rintro e w2 ⟨rfl, hk2⟩; have HK2 := hide hk2; clear hk2))
      go_ret2
      exact ⟨rfl, HK2.out⟩
    · go_enter Tryz.func10, Tryz.ntmps10
      go_wp2_with (first
        | (go_at_call 25; refine HS.out.mono ?_; rintro e w1 ⟨rfl, rfl⟩)
        | (go_at_call 24; refine HG.out.mono ?_; rintro e w2 ⟨rfl, hk2⟩; have HK2 := hide hk2; clear hk2))
      go_ret2
      exact ⟨rfl, HK2.out⟩
end Go.Proofs.YthkmbnbkipomiaaGreatDoor
