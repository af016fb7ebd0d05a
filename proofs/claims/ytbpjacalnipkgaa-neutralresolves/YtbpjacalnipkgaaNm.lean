/- The mathematics of neutral: sides, what was met last on a way, the sides that neutral types get, implicit levels. -/
import Derived.Test.YtbpjacalnipkgaaLists
namespace Go.Proofs.Ytbpjacalnipkgaa
set_option linter.unusedVariables false
namespace Ne
/-- A type's side; 0: it has none. -/
def sd (x : Int) : Int := if x = 1 then 1 else if x = 2 ∨ x = 4 ∨ x = 7 then 2 else 0
/-- A neutral type. -/
def neu (x : Int) : Bool := x == 11 || x == 12 || x == 13 || x == 14 || x == 20 || x == 21 || x == 22 || x == 23
def May (x : Int) : Prop := sd x ≠ 0 ∨ neu x = true
instance (x : Int) : Decidable (May x) := inferInstanceAs (Decidable (_ ∨ _))
def Ok (t : List Int) : Prop := ∀ i, i < t.length → May (t.getD i 0)
/-- The side of a level. -/
def es (lv : Int) : Int := if lv % 2 = 1 then 2 else 1
/-- The side met last among the first k places. -/
def ah (t : List Int) (s : Int) : Nat → Int
  | 0 => s
  | k + 1 => if sd (t.getD k 0) = 0 then ah t s k else sd (t.getD k 0)
/-- A place's type behind the rules. -/
def r1 (t : List Int) (lv so eo : Int) (i : Nat) : Int :=
  if sd (t.getD i 0) = 0 then (if ah t so (i + 1) = ah t.reverse eo (t.length - i) then ah t so (i + 1) else es lv) else t.getD i 0
def RS (t : List Int) (lv so eo : Int) : List Int := (List.range t.length).map (r1 t lv so eo)
def Good (lv so eo : Int) : Prop := 0 ≤ lv ∧ lv ≤ 126 ∧ (so = 1 ∨ so = 2) ∧ (eo = 1 ∨ eo = 2)
theorem sd_cases (x : Int) : sd x = 0 ∨ sd x = 1 ∨ sd x = 2 := by
  unfold sd
  by_cases h1 : x = 1
  · rw [if_pos h1]; exact .inr (.inl rfl)
  · rw [if_neg h1]
    by_cases h2 : x = 2 ∨ x = 4 ∨ x = 7
    · rw [if_pos h2]; exact .inr (.inr rfl)
    · rw [if_neg h2]; exact .inl rfl
theorem es_cases (lv : Int) : es lv = 1 ∨ es lv = 2 := by
  unfold es
  by_cases h : lv % 2 = 1
  · rw [if_pos h]; exact .inr rfl
  · rw [if_neg h]; exact .inl rfl
theorem ah_zero (t : List Int) (s : Int) : ah t s 0 = s := rfl
theorem ah_succ (t : List Int) (s : Int) (k : Nat) : ah t s (k + 1) = if sd (t.getD k 0) = 0 then ah t s k else sd (t.getD k 0) := rfl
theorem ah_cases (t : List Int) (s : Int) (hs : s = 1 ∨ s = 2) : ∀ k, ah t s k = 1 ∨ ah t s k = 2
  | 0 => hs
  | k + 1 => by
    rw [ah_succ]
    by_cases h : sd (t.getD k 0) = 0
    · rw [if_pos h]; exact ah_cases t s hs k
    · rw [if_neg h]; exact (sd_cases _).resolve_left h
theorem getD_map' {β : Type} (n : Nat) (f : Nat → β) (z : β) {j : Nat} (hj : j < n) : ((List.range n).map f).getD j z = f j := by
  simp [List.getD, hj]
theorem RS_len (t : List Int) (lv so eo : Int) : (RS t lv so eo).length = t.length := by simp [RS]
theorem RS_at (t : List Int) (lv so eo : Int) {i : Nat} (hi : i < t.length) : (RS t lv so eo).getD i 0 = r1 t lv so eo i := getD_map' _ _ _ hi
theorem getD_rev (t : List Int) {j : Nat} (hj : j < t.length) : t.reverse.getD j 0 = t.getD (t.length - 1 - j) 0 := by
  simp only [List.getD]
  rw [List.getElem?_reverse hj]
/-- P11.3. -/
theorem keeps (t : List Int) (lv so eo : Int) (hso : so = 1 ∨ so = 2) {i : Nat} (hi : i < t.length) :
    (sd (t.getD i 0) ≠ 0 → (RS t lv so eo).getD i 0 = t.getD i 0) ∧ (sd (t.getD i 0) = 0 → (RS t lv so eo).getD i 0 = 1 ∨ (RS t lv so eo).getD i 0 = 2) := by
  rw [RS_at _ _ _ _ hi]
  unfold r1
  refine ⟨fun h => if_neg h, fun h => ?_⟩
  rw [if_pos h]
  by_cases h2 : ah t so (i + 1) = ah t.reverse eo (t.length - i)
  · rw [if_pos h2]; exact ah_cases t so hso _
  · rw [if_neg h2]; exact es_cases lv
theorem turned (t : List Int) (lv so eo : Int) {i : Nat} (hi : i < t.length) : (RS t.reverse lv eo so).getD (t.length - 1 - i) 0 = (RS t lv so eo).getD i 0 := by
  rw [RS_at _ _ _ _ hi, RS_at _ _ _ _ (by rw [List.length_reverse]; omega)]
  unfold r1
  rw [getD_rev t (show t.length - 1 - i < t.length by omega), show t.length - 1 - (t.length - 1 - i) = i by omega, List.reverse_reverse, List.length_reverse, show t.length - 1 - i + 1 = t.length - i by omega, show t.length - (t.length - 1 - i) = i + 1 by omega]
  by_cases h : sd (t.getD i 0) = 0
  · rw [if_pos h, if_pos h]
    by_cases h2 : ah t so (i + 1) = ah t.reverse eo (t.length - i)
    · rw [if_pos h2, if_pos h2.symm, h2]
    · rw [if_neg h2, if_neg (fun e => h2 e.symm)]
  · rw [if_neg h, if_neg h]
theorem ok_rev {t : List Int} (h : Ok t) : Ok t.reverse := by
  intro i hi
  rw [List.length_reverse] at hi
  rw [getD_rev t hi]
  exact h _ (by omega)
/-- What stands behind a place with a side, up to the next one. -/
theorem ah_from (t : List Int) (s p : Int) (h0 : sd (t.getD 0 0) = p) (hp : p ≠ 0) : ∀ k, (∀ j, 0 < j → j ≤ k → sd (t.getD j 0) = 0) → ah t s (k + 1) = p
  | 0, _ => by rw [ah_succ, h0, if_neg hp]
  | k + 1, h => by
    rw [ah_succ, if_pos (h (k + 1) (by omega) (Nat.le_refl _))]
    exact ah_from t s p h0 hp k (fun j h1 h2 => h j h1 (by omega))
/-- Neutral types between two that have a side. -/
theorem between (t : List Int) (lv so eo p q : Int) (n : Nat) (hl : t.length = n + 2) (h0 : sd (t.getD 0 0) = p) (hp : p ≠ 0) (h1 : sd (t.getD (n + 1) 0) = q) (hq : q ≠ 0) (hm : ∀ j, 0 < j → j ≤ n → sd (t.getD j 0) = 0)
    {i : Nat} (hi : 0 < i) (hin : i ≤ n) : (RS t lv so eo).getD i 0 = if p = q then p else es lv := by
  rw [RS_at _ _ _ _ (by omega)]
  unfold r1
  rw [if_pos (hm i hi hin), ah_from t so p h0 hp i (fun j a b => hm j a (by omega))]
  have e : ah t.reverse eo (t.length - i) = q := by
    rw [show t.length - i = (n + 1 - i) + 1 by omega]
    refine ah_from _ _ _ ?_ hq _ (fun j a b => ?_)
    · rw [getD_rev t (by omega), hl]; exact h1
    · rw [getD_rev t (by omega), hl]; exact hm _ (by omega) (by omega)
  rw [e]
/-- One place on a way: what was met last, and what was written. -/
def stp (a : Int × List Int) (x : Nat × Int) : Int × List Int := (if sd x.2 = 0 then a.1 else sd x.2, a.2.set x.1 (if sd x.2 = 0 then a.1 else sd x.2))
def nr (s : Int) (n : Nat) (pre : List (Nat × Int)) : Int × List Int := pre.foldl stp (s, List.replicate n 0)
theorem nr_nil (s : Int) (n : Nat) : nr s n [] = (s, List.replicate n 0) := rfl
theorem nr_snoc (s : Int) (n : Nat) (pre : List (Nat × Int)) (x : Nat × Int) : nr s n (pre ++ [x]) = stp (nr s n pre) x := by simp [nr, List.foldl_append]
theorem nr_len (s : Int) (n : Nat) (pre : List (Nat × Int)) : (nr s n pre).2.length = n := by
  have : ∀ (l : List (Nat × Int)) (a : Int × List Int), (l.foldl stp a).2.length = a.2.length := by
    intro l
    induction l with
    | nil => intro a; rfl
    | cons x l ih => intro a; rw [List.foldl_cons, ih]; simp [stp]
  rw [nr, this]; simp
/-- The way onward; the way back. -/
def ups (t : List Int) : List (Nat × Int) := (List.range t.length).map fun k => (k, t.getD k 0)
def downs (t : List Int) : List (Nat × Int) := (List.range t.length).map fun k => (t.length - 1 - k, t.getD (t.length - 1 - k) 0)
theorem ups_len (t : List Int) : (ups t).length = t.length := by simp [ups]
theorem downs_len (t : List Int) : (downs t).length = t.length := by simp [downs]
theorem ups_at (t : List Int) {k : Nat} (h : k < t.length) : (ups t)[k]? = some (k, t.getD k 0) := by simp [ups, h]
theorem downs_at (t : List Int) {k : Nat} (h : k < t.length) : (downs t)[k]? = some (t.length - 1 - k, t.getD (t.length - 1 - k) 0) := by simp [downs, h]
theorem take_snoc2 {α : Type} (l : List α) (k : Nat) (x : α) (h : l[k]? = some x) : l.take (k + 1) = l.take k ++ [x] := by
  obtain ⟨hk, hx⟩ := List.getElem?_eq_some_iff.1 h
  rw [List.take_succ_eq_append_getElem hk, hx]
theorem set_map (n : Nat) (f g : Nat → Int) (i : Nat) (y : Int) (hi : g i = y) (ho : ∀ j, j ≠ i → g j = f j) : ((List.range n).map f).set i y = (List.range n).map g := by
  apply List.ext_getElem?
  intro j
  by_cases h : i = j
  · subst h
    by_cases hl : i < n
    · rw [List.getElem?_set_self (by simpa using hl)]; simp [hl, hi]
    · rw [List.getElem?_eq_none (by simp; omega), List.getElem?_eq_none (by simp; omega)]
  · rw [List.getElem?_set_ne h]
    by_cases hl : j < n
    · simp [hl, ho j (fun e => h e.symm)]
    · rw [List.getElem?_eq_none (by simp; omega), List.getElem?_eq_none (by simp; omega)]
theorem rep_map (n : Nat) : List.replicate n (0 : Int) = (List.range n).map fun _ => (0 : Int) := by
  apply List.ext_getElem?
  intro j
  by_cases hl : j < n
  · simp [hl]
  · rw [List.getElem?_eq_none (by simp; omega), List.getElem?_eq_none (by simp; omega)]
theorem nr_ups (t : List Int) (s : Int) : ∀ k, k ≤ t.length → nr s t.length ((ups t).take k) = (ah t s k, (List.range t.length).map fun i => if i < k then ah t s (i + 1) else 0)
  | 0, _ => by
    rw [List.take_zero, nr_nil, rep_map]; rfl
  | k + 1, h => by
    rw [take_snoc2 _ _ _ (ups_at t (show k < t.length by omega)), nr_snoc, nr_ups t s k (by omega)]
    unfold stp
    refine Prod.ext (ah_succ t s k).symm ?_
    dsimp only
    refine set_map _ _ _ _ _ ?_ (fun j hj => ?_)
    · rw [if_pos (by omega)]; exact ah_succ t s k
    · by_cases hk : j < k
      · rw [if_pos hk, if_pos (by omega)]
      · rw [if_neg hk, if_neg (by omega)]
theorem nr_downs (t : List Int) (s : Int) : ∀ k, k ≤ t.length → nr s t.length ((downs t).take k) = (ah t.reverse s k, (List.range t.length).map fun i => if t.length - k ≤ i then ah t.reverse s (t.length - i) else 0)
  | 0, _ => by
    rw [List.take_zero, nr_nil, rep_map]
    refine Prod.ext rfl ?_
    dsimp only
    apply List.map_congr_left
    intro i hi
    rw [if_neg (by have := List.mem_range.1 hi; omega)]
  | k + 1, h => by
    have hk : k < t.length := by omega
    have ea := ah_succ t.reverse s k
    rw [getD_rev t hk] at ea
    rw [take_snoc2 _ _ _ (downs_at t hk), nr_snoc, nr_downs t s k (by omega)]
    unfold stp
    refine Prod.ext ea.symm ?_
    dsimp only
    refine set_map _ _ _ _ _ ?_ (fun j hj => ?_)
    · rw [if_pos (by omega), show t.length - (t.length - 1 - k) = k + 1 by omega]; exact ea
    · by_cases hk : t.length - k ≤ j
      · rw [if_pos hk, if_pos (by omega)]
      · rw [if_neg hk, if_neg (by omega)]
/-- What nearest answers. -/
def AH (t : List Int) (s : Int) : List Int := (List.range t.length).map fun i => ah t s (i + 1)
def BH (t : List Int) (s : Int) : List Int := (List.range t.length).map fun i => ah t.reverse s (t.length - i)
theorem AH_len (t : List Int) (s : Int) : (AH t s).length = t.length := by simp [AH]
theorem BH_len (t : List Int) (s : Int) : (BH t s).length = t.length := by simp [BH]
theorem AH_at (t : List Int) (s : Int) {i : Nat} (h : i < t.length) : (AH t s).getD i 0 = ah t s (i + 1) := getD_map' _ _ _ h
theorem BH_at (t : List Int) (s : Int) {i : Nat} (h : i < t.length) : (BH t s).getD i 0 = ah t.reverse s (t.length - i) := getD_map' _ _ _ h
theorem nr_all_ups (t : List Int) (s : Int) : (nr s t.length (ups t)).2 = AH t s := by
  have h := nr_ups t s t.length (Nat.le_refl _)
  rw [← ups_len t, List.take_length, ups_len] at h
  rw [h]
  unfold AH
  dsimp only
  apply List.map_congr_left
  intro i hi
  rw [if_pos (List.mem_range.1 hi)]
theorem nr_all_downs (t : List Int) (s : Int) : (nr s t.length (downs t)).2 = BH t s := by
  have h := nr_downs t s t.length (Nat.le_refl _)
  rw [← downs_len t, List.take_length, downs_len] at h
  rw [h]
  unfold BH
  dsimp only
  apply List.map_congr_left
  intro i hi
  rw [if_pos (by omega)]
/-- The first k types behind the rules, the others nought. -/
def RL (t : List Int) (lv so eo : Int) (k : Nat) : List Int := (List.range t.length).map fun i => if i < k then r1 t lv so eo i else 0
theorem RL_zero (t : List Int) (lv so eo : Int) : RL t lv so eo 0 = List.replicate t.length 0 := by
  rw [rep_map]; rfl
theorem RL_succ (t : List Int) (lv so eo : Int) (k : Nat) : (RL t lv so eo k).set k (r1 t lv so eo k) = RL t lv so eo (k + 1) := by
  refine set_map _ _ _ _ _ (if_pos (by omega)) (fun j hj => ?_)
  by_cases hk : j < k
  · rw [if_pos hk, if_pos (by omega)]
  · rw [if_neg hk, if_neg (by omega)]
theorem RL_all (t : List Int) (lv so eo : Int) : RL t lv so eo t.length = RS t lv so eo := by
  unfold RL RS
  apply List.map_congr_left
  intro i hi
  rw [if_pos (List.mem_range.1 hi)]
/-- Implicit levels. -/
def lv1 (lv x : Int) : Int := if lv % 2 = 0 then (if x = 1 then lv else if x = 2 then lv + 1 else lv + 2) else (if x = 2 then lv else lv + 1)
def LS (t : List Int) (lv : Int) : List Int := (List.range t.length).map fun i => lv1 lv (t.getD i 0)
def LL (t : List Int) (lv : Int) (k : Nat) : List Int := (List.range t.length).map fun i => if i < k then lv1 lv (t.getD i 0) else 0
theorem LS_len (t : List Int) (lv : Int) : (LS t lv).length = t.length := by simp [LS]
theorem LS_at (t : List Int) (lv : Int) {i : Nat} (hi : i < t.length) : (LS t lv).getD i 0 = lv1 lv (t.getD i 0) := getD_map' _ _ _ hi
theorem LL_zero (t : List Int) (lv : Int) : LL t lv 0 = List.replicate t.length 0 := by
  rw [rep_map]; rfl
theorem LL_succ (t : List Int) (lv : Int) (k : Nat) : (LL t lv k).set k (lv1 lv (t.getD k 0)) = LL t lv (k + 1) := by
  refine set_map _ _ _ _ _ (if_pos (by omega)) (fun j hj => ?_)
  by_cases hk : j < k
  · rw [if_pos hk, if_pos (by omega)]
  · rw [if_neg hk, if_neg (by omega)]
theorem LL_all (t : List Int) (lv : Int) : LL t lv t.length = LS t lv := by
  unfold LL LS
  apply List.map_congr_left
  intro i hi
  rw [if_pos (List.mem_range.1 hi)]
def Sided (t : List Int) : Prop := ∀ i, i < t.length → sd (t.getD i 0) ≠ 0
theorem sided_cases {x : Int} (h : sd x ≠ 0) : x = 1 ∨ x = 2 ∨ x = 4 ∨ x = 7 := by
  unfold sd at h
  by_cases h1 : x = 1
  · exact .inl h1
  · rw [if_neg h1] at h
    by_cases h2 : x = 2 ∨ x = 4 ∨ x = 7
    · exact .inr h2
    · rw [if_neg h2] at h; exact absurd rfl h
theorem unsided {x : Int} (h : sd x = 0) : x ≠ 1 ∧ x ≠ 2 ∧ x ≠ 4 ∧ x ≠ 7 := by
  refine ⟨?_, ?_, ?_, ?_⟩ <;> (rintro rfl; revert h; decide)
/-- P11.2, P11.3. -/
theorem lv1_two {lv x : Int} (h : sd x ≠ 0) : lv ≤ lv1 lv x ∧ lv1 lv x ≤ lv + 2 ∧ ((lv1 lv x) % 2 = 1 ↔ x = 2) ∧ (x = 4 ∨ x = 7 → lv1 lv x ≠ lv) := by
  have hc := sided_cases h
  unfold lv1
  by_cases he : lv % 2 = 0
  · rw [if_pos he]
    rcases hc with rfl | rfl | rfl | rfl
    · rw [if_pos rfl]; omega
    · rw [if_neg (by omega), if_pos rfl]; omega
    · rw [if_neg (by omega), if_neg (by omega)]; omega
    · rw [if_neg (by omega), if_neg (by omega)]; omega
  · rw [if_neg he]
    rcases hc with rfl | rfl | rfl | rfl
    · rw [if_neg (by omega)]; omega
    · rw [if_pos rfl]; omega
    · rw [if_neg (by omega)]; omega
    · rw [if_neg (by omega)]; omega
/-- By how much a type is deeper. -/
def dp (x lv : Int) : Int := lv1 lv x - lv
/-- What Resolve and Levels answer. -/
def AR (t : List Int) (lv so eo : Int) (L : List Int) (E : Int) : Prop :=
  (¬ Good lv so eo ∧ L = [] ∧ E = 2) ∨ (Good lv so eo ∧ ¬ Ok t ∧ L = [] ∧ E = 50) ∨ (Good lv so eo ∧ Ok t ∧ L = RS t lv so eo ∧ E = 0)
theorem AR_some (t : List Int) (lv so eo : Int) : ∃ L E, AR t lv so eo L E := by
  by_cases hg : Good lv so eo
  · by_cases ho : Ok t
    · exact ⟨_, _, .inr (.inr ⟨hg, ho, rfl, rfl⟩)⟩
    · exact ⟨_, _, .inr (.inl ⟨hg, ho, rfl, rfl⟩)⟩
  · exact ⟨_, _, .inl ⟨hg, rfl, rfl⟩⟩
def Lev (lv : Int) : Prop := 0 ≤ lv ∧ lv ≤ 126
instance (lv : Int) : Decidable (Lev lv) := inferInstanceAs (Decidable (_ ∧ _))
def AL (t : List Int) (lv : Int) (L : List Int) (E : Int) : Prop :=
  (¬ Lev lv ∧ L = [] ∧ E = 2) ∨ (Lev lv ∧ ¬ Sided t ∧ L = [] ∧ E = 50) ∨ (Lev lv ∧ Sided t ∧ L = LS t lv ∧ E = 0)
theorem AL_some (t : List Int) (lv : Int) : ∃ L E, AL t lv L E := by
  by_cases hg : Lev lv
  · by_cases ho : Sided t
    · exact ⟨_, _, .inr (.inr ⟨hg, ho, rfl, rfl⟩)⟩
    · exact ⟨_, _, .inr (.inl ⟨hg, ho, rfl, rfl⟩)⟩
  · exact ⟨_, _, .inl ⟨hg, rfl, rfl⟩⟩
theorem ok_all {t : List Int} (h : ∀ x ∈ t, May x) : Ok t := by
  intro i hi
  have e : t.getD i 0 = t[i] := by simp [List.getD, List.getElem?_eq_getElem hi]
  rw [e]; exact h _ (List.getElem_mem _)
theorem sided_all {t : List Int} (h : ∀ x ∈ t, sd x ≠ 0) : Sided t := by
  intro i hi
  have e : t.getD i 0 = t[i] := by simp [List.getD, List.getElem?_eq_getElem hi]
  rw [e]; exact h _ (List.getElem_mem _)
end Ne
end Go.Proofs.Ytbpjacalnipkgaa
