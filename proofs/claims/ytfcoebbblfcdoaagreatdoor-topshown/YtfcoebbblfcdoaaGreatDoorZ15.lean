import Derived.Test.YtfcoebbblfcdoaaGreatDoorZ01
import Derived.Test.YtfcoebbblfcdoaaGreatDoorZ14
/- The mathematics of neutral: sides, what was met last on a way, the sides that neutral types get, implicit levels. -/
namespace Go.Proofs.YtfcoebbblfcdoaaGreatDoor
set_option linter.unusedVariables false
namespace Ne
def sd (x : Int) : Int := if x = 1 then 1 else if x = 2 \/ x = 4 \/ x = 7 then 2 else 0
def neu (x : Int) : Bool := x == 11 || x == 12 || x == 13 || x == 14 || x == 20 || x == 21 || x == 22 || x == 23
def May (x : Int) : Prop := sd x ≠ 0 \/ neu x = true
instance (x : Int) : Decidable (May x) := inferInstanceAs (Decidable (_ \/ _))
def Ok (t : List Int) : Prop := ∀ i, i < t.length -> May (t.getD i 0)
def es (lv : Int) : Int := if lv % 2 = 1 then 2 else 1
def ah (t : List Int) (s : Int) : Nat -> Int
 | 0 => s
 | k + 1 => if sd (t.getD k 0) = 0 then ah t s k else sd (t.getD k 0)
def r1 (t : List Int) (lv so eo : Int) (i : Nat) : Int :=
 if sd (t.getD i 0) = 0 then (if ah t so (i + 1) = ah t.reverse eo (t.length - i) then ah t so (i + 1) else es lv) else t.getD i 0
def RS (t : List Int) (lv so eo : Int) : List Int := (List.range t.length).map (r1 t lv so eo)
def Good (lv so eo : Int) : Prop := 0 <= lv /\ lv <= 126 /\ (so = 1 \/ so = 2) /\ (eo = 1 \/ eo = 2)
theorem sd_cases (x : Int) : sd x = 0 \/ sd x = 1 \/ sd x = 2 := by
 unfold sd
 by_cases h1 : x = 1
 ·rw [if_pos h1]; exact .inr (.inl rfl)
 ·rw [if_neg h1]
  by_cases h2 : x = 2 \/ x = 4 \/ x = 7
  ·rw [if_pos h2]; exact .inr (.inr rfl)
  ·rw [if_neg h2]; exact .inl rfl
theorem es_cases (lv : Int) : es lv = 1 \/ es lv = 2 := by
 unfold es
 by_cases h : lv % 2 = 1
 ·rw [if_pos h]; exact .inr rfl
 ·rw [if_neg h]; exact .inl rfl
theorem ah_succ (t : List Int) (s : Int) (k : Nat) : ah t s (k + 1) = if sd (t.getD k 0) = 0 then ah t s k else sd (t.getD k 0) := rfl
theorem ah_cases (t : List Int) (s : Int) (hs : s = 1 \/ s = 2) : ∀ k, ah t s k = 1 \/ ah t s k = 2
 | 0 => hs
 | k + 1 => by
  rw [ah_succ]
  by_cases h : sd (t.getD k 0) = 0
  ·rw [if_pos h]; exact ah_cases t s hs k
  ·rw [if_neg h]; exact (sd_cases _).resolve_left h
theorem getD_map' {β : Type} (n : Nat) (f : Nat -> β) (z : β) {j : Nat} (hj : j < n) : ((List.range n).map f).getD j z = f j := by
 simp [List.getD, hj]
theorem RS_len (t : List Int) (lv so eo : Int) : (RS t lv so eo).length = t.length := by simp [RS]
theorem RS_at (t : List Int) (lv so eo : Int) {i : Nat} (hi : i < t.length) : (RS t lv so eo).getD i 0 = r1 t lv so eo i := getD_map' _ _ _ hi
theorem getD_rev (t : List Int) {j : Nat} (hj : j < t.length) : t.reverse.getD j 0 = t.getD (t.length - 1 - j) 0 := by
 simp only [List.getD]
 rw [List.getElem?_reverse hj]
theorem keeps (t : List Int) (lv so eo : Int) (hso : so = 1 \/ so = 2) {i : Nat} (hi : i < t.length) :
  (sd (t.getD i 0) ≠ 0 -> (RS t lv so eo).getD i 0 = t.getD i 0) /\ (sd (t.getD i 0) = 0 -> (RS t lv so eo).getD i 0 = 1 \/ (RS t lv so eo).getD i 0 = 2) := by
 rw [RS_at _ _ _ _ hi]
 unfold r1
 refine ⟨fun h => if_neg h, fun h => ?_⟩
 rw [if_pos h]
 by_cases h2 : ah t so (i + 1) = ah t.reverse eo (t.length - i)
 ·rw [if_pos h2]; exact ah_cases t so hso _
 ·rw [if_neg h2]; exact es_cases lv
theorem turned (t : List Int) (lv so eo : Int) {i : Nat} (hi : i < t.length) : (RS t.reverse lv eo so).getD (t.length - 1 - i) 0 = (RS t lv so eo).getD i 0 := by
 rw [RS_at _ _ _ _ hi, RS_at _ _ _ _ (by rw [List.length_reverse]; omega)]
 unfold r1
 rw [getD_rev t (show t.length - 1 - i < t.length by omega), show t.length - 1 - (t.length - 1 - i) = i by omega, List.reverse_reverse, List.length_reverse, show t.length - 1 - i + 1 = t.length - i by omega, show t.length - (t.length - 1 - i) = i + 1 by omega]
 by_cases h : sd (t.getD i 0) = 0
 ·rw [if_pos h, if_pos h]
  by_cases h2 : ah t so (i + 1) = ah t.reverse eo (t.length - i)
  ·rw [if_pos h2, if_pos h2.symm, h2]
  ·rw [if_neg h2, if_neg (fun e => h2 e.symm)]
 ·rw [if_neg h, if_neg h]
theorem ah_from (t : List Int) (s p : Int) (h0 : sd (t.getD 0 0) = p) (hp : p ≠ 0) : ∀ k, (∀ j, 0 < j -> j <= k -> sd (t.getD j 0) = 0) -> ah t s (k + 1) = p
 | 0, _ => by rw [ah_succ, h0, if_neg hp]
 | k + 1, h => by
  rw [ah_succ, if_pos (h (k + 1) (by omega) (Nat.le_refl _))]
  exact ah_from t s p h0 hp k (fun j h1 h2 => h j h1 (by omega))
theorem between (t : List Int) (lv so eo p q : Int) (n : Nat) (hl : t.length = n + 2) (h0 : sd (t.getD 0 0) = p) (hp : p ≠ 0) (h1 : sd (t.getD (n + 1) 0) = q) (hq : q ≠ 0) (hm : ∀ j, 0 < j -> j <= n -> sd (t.getD j 0) = 0)
  {i : Nat} (hi : 0 < i) (hin : i <= n) : (RS t lv so eo).getD i 0 = if p = q then p else es lv := by
 rw [RS_at _ _ _ _ (by omega)]
 unfold r1
 rw [if_pos (hm i hi hin), ah_from t so p h0 hp i (fun j a b => hm j a (by omega))]
 have e : ah t.reverse eo (t.length - i) = q := by
  rw [show t.length - i = (n + 1 - i) + 1 by omega]
  refine ah_from _ _ _ ?_ hq _ (fun j a b => ?_)
  ·rw [getD_rev t (by omega), hl]; exact h1
  ·rw [getD_rev t (by omega), hl]; exact hm _ (by omega) (by omega)
 rw [e]
def stp (a : Int × List Int) (x : Nat × Int) : Int × List Int := (if sd x.2 = 0 then a.1 else sd x.2, a.2.set x.1 (if sd x.2 = 0 then a.1 else sd x.2))
def nr (s : Int) (n : Nat) (pre : List (Nat × Int)) : Int × List Int := pre.foldl stp (s, List.replicate n 0)
theorem nr_nil (s : Int) (n : Nat) : nr s n [] = (s, List.replicate n 0) := rfl
theorem nr_snoc (s : Int) (n : Nat) (pre : List (Nat × Int)) (x : Nat × Int) : nr s n (pre ++ [x]) = stp (nr s n pre) x := by simp [nr, List.foldl_append]
def ups (t : List Int) : List (Nat × Int) := (List.range t.length).map fun k => (k, t.getD k 0)
def downs (t : List Int) : List (Nat × Int) := (List.range t.length).map fun k => (t.length - 1 - k, t.getD (t.length - 1 - k) 0)
theorem ups_len (t : List Int) : (ups t).length = t.length := by simp [ups]
theorem downs_len (t : List Int) : (downs t).length = t.length := by simp [downs]
theorem ups_at (t : List Int) {k : Nat} (h : k < t.length) : (ups t)[k]? = some (k, t.getD k 0) := by simp [ups, h]
theorem downs_at (t : List Int) {k : Nat} (h : k < t.length) : (downs t)[k]? = some (t.length - 1 - k, t.getD (t.length - 1 - k) 0) := by simp [downs, h]
theorem take_snoc2 {α : Type} (l : List α) (k : Nat) (x : α) (h : l[k]? = some x) : l.take (k + 1) = l.take k ++ [x] := by
 obtain ⟨hk, hx⟩ := List.getElem?_eq_some_iff.1 h
 rw [List.take_succ_eq_append_getElem hk, hx]
theorem set_map (n : Nat) (f g : Nat -> Int) (i : Nat) (y : Int) (hi : g i = y) (ho : ∀ j, j ≠ i -> g j = f j) : ((List.range n).map f).set i y = (List.range n).map g := by
 apply List.ext_getElem?
 intro j
 by_cases h : i = j
 ·subst h
  by_cases hl : i < n
  ·rw [List.getElem?_set_self (by simpa using hl)]; simp [hl, hi]
  ·rw [List.getElem?_eq_none (by simp; omega), List.getElem?_eq_none (by simp; omega)]
 ·rw [List.getElem?_set_ne h]
  by_cases hl : j < n
  ·simp [hl, ho j (fun e => h e.symm)]
  ·rw [List.getElem?_eq_none (by simp; omega), List.getElem?_eq_none (by simp; omega)]
theorem rep_map (n : Nat) : List.replicate n (0 : Int) = (List.range n).map fun _ => (0 : Int) := by
 apply List.ext_getElem?
 intro j
 by_cases hl : j < n
 ·simp [hl]
 ·rw [List.getElem?_eq_none (by simp; omega), List.getElem?_eq_none (by simp; omega)]
theorem nr_ups (t : List Int) (s : Int) : ∀ k, k <= t.length -> nr s t.length ((ups t).take k) = (ah t s k, (List.range t.length).map fun i => if i < k then ah t s (i + 1) else 0)
 | 0, _ => by
  rw [List.take_zero, nr_nil, rep_map]; rfl
 | k + 1, h => by
  rw [take_snoc2 _ _ _ (ups_at t (show k < t.length by omega)), nr_snoc, nr_ups t s k (by omega)]
  unfold stp
  refine Prod.ext (ah_succ t s k).symm ?_
  dsimp only
  refine set_map _ _ _ _ _ ?_ (fun j hj => ?_)
  ·rw [if_pos (by omega)]; exact ah_succ t s k
  ·by_cases hk : j < k
   ·rw [if_pos hk, if_pos (by omega)]
   ·rw [if_neg hk, if_neg (by omega)]
theorem nr_downs (t : List Int) (s : Int) : ∀ k, k <= t.length -> nr s t.length ((downs t).take k) = (ah t.reverse s k, (List.range t.length).map fun i => if t.length - k <= i then ah t.reverse s (t.length - i) else 0)
 | 0, _ => by
  rw [List.take_zero, nr_nil, rep_map]
  refine Prod.ext rfl ?_
  dsimp only
  apply List.map_congr_left
  intro i hi
  rw [if_neg (by have := List.mem_range.1 hi; omega)]
 | k + 1, h => by
  have hk : k < t.length := by omega
  have ea := ah_succ t.reverse s k
  rw [getD_rev t hk] at ea
  rw [take_snoc2 _ _ _ (downs_at t hk), nr_snoc, nr_downs t s k (by omega)]
  unfold stp
  refine Prod.ext ea.symm ?_
  dsimp only
  refine set_map _ _ _ _ _ ?_ (fun j hj => ?_)
  ·rw [if_pos (by omega), show t.length - (t.length - 1 - k) = k + 1 by omega]; exact ea
  ·by_cases hk : t.length - k <= j
   ·rw [if_pos hk, if_pos (by omega)]
   ·rw [if_neg hk, if_neg (by omega)]
def AH (t : List Int) (s : Int) : List Int := (List.range t.length).map fun i => ah t s (i + 1)
def BH (t : List Int) (s : Int) : List Int := (List.range t.length).map fun i => ah t.reverse s (t.length - i)
theorem AH_at (t : List Int) (s : Int) {i : Nat} (h : i < t.length) : (AH t s).getD i 0 = ah t s (i + 1) := getD_map' _ _ _ h
theorem BH_at (t : List Int) (s : Int) {i : Nat} (h : i < t.length) : (BH t s).getD i 0 = ah t.reverse s (t.length - i) := getD_map' _ _ _ h
theorem nr_all_ups (t : List Int) (s : Int) : (nr s t.length (ups t)).2 = AH t s := by
 have h := nr_ups t s t.length (Nat.le_refl _)
 rw [<- ups_len t, List.take_length, ups_len] at h
 rw [h]
 unfold AH
 dsimp only
 apply List.map_congr_left
 intro i hi
 rw [if_pos (List.mem_range.1 hi)]
theorem nr_all_downs (t : List Int) (s : Int) : (nr s t.length (downs t)).2 = BH t s := by
 have h := nr_downs t s t.length (Nat.le_refl _)
 rw [<- downs_len t, List.take_length, downs_len] at h
 rw [h]
 unfold BH
 dsimp only
 apply List.map_congr_left
 intro i hi
 rw [if_pos (by omega)]
def RL (t : List Int) (lv so eo : Int) (k : Nat) : List Int := (List.range t.length).map fun i => if i < k then r1 t lv so eo i else 0
theorem RL_zero (t : List Int) (lv so eo : Int) : RL t lv so eo 0 = List.replicate t.length 0 := by
 rw [rep_map]; rfl
theorem RL_succ (t : List Int) (lv so eo : Int) (k : Nat) : (RL t lv so eo k).set k (r1 t lv so eo k) = RL t lv so eo (k + 1) := by
 refine set_map _ _ _ _ _ (if_pos (by omega)) (fun j hj => ?_)
 by_cases hk : j < k
 ·rw [if_pos hk, if_pos (by omega)]
 ·rw [if_neg hk, if_neg (by omega)]
theorem RL_all (t : List Int) (lv so eo : Int) : RL t lv so eo t.length = RS t lv so eo := by
 unfold RL RS
 apply List.map_congr_left
 intro i hi
 rw [if_pos (List.mem_range.1 hi)]
def lv1 (lv x : Int) : Int := if lv % 2 = 0 then (if x = 1 then lv else if x = 2 then lv + 1 else lv + 2) else (if x = 2 then lv else lv + 1)
def LS (t : List Int) (lv : Int) : List Int := (List.range t.length).map fun i => lv1 lv (t.getD i 0)
def LL (t : List Int) (lv : Int) (k : Nat) : List Int := (List.range t.length).map fun i => if i < k then lv1 lv (t.getD i 0) else 0
theorem LS_len (t : List Int) (lv : Int) : (LS t lv).length = t.length := by simp [LS]
theorem LS_at (t : List Int) (lv : Int) {i : Nat} (hi : i < t.length) : (LS t lv).getD i 0 = lv1 lv (t.getD i 0) := getD_map' _ _ _ hi
theorem LL_zero (t : List Int) (lv : Int) : LL t lv 0 = List.replicate t.length 0 := by
 rw [rep_map]; rfl
theorem LL_succ (t : List Int) (lv : Int) (k : Nat) : (LL t lv k).set k (lv1 lv (t.getD k 0)) = LL t lv (k + 1) := by
 refine set_map _ _ _ _ _ (if_pos (by omega)) (fun j hj => ?_)
 by_cases hk : j < k
 ·rw [if_pos hk, if_pos (by omega)]
 ·rw [if_neg hk, if_neg (by omega)]
theorem LL_all (t : List Int) (lv : Int) : LL t lv t.length = LS t lv := by
 unfold LL LS
 apply List.map_congr_left
 intro i hi
 rw [if_pos (List.mem_range.1 hi)]
def Sided (t : List Int) : Prop := ∀ i, i < t.length -> sd (t.getD i 0) ≠ 0
theorem sided_cases {x : Int} (h : sd x ≠ 0) : x = 1 \/ x = 2 \/ x = 4 \/ x = 7 := by
 unfold sd at h
 by_cases h1 : x = 1
 ·exact .inl h1
 ·rw [if_neg h1] at h
  by_cases h2 : x = 2 \/ x = 4 \/ x = 7
  ·exact .inr h2
  ·rw [if_neg h2] at h; exact absurd rfl h
theorem unsided {x : Int} (h : sd x = 0) : x ≠ 1 /\ x ≠ 2 /\ x ≠ 4 /\ x ≠ 7 := by
 refine ⟨?_, ?_, ?_, ?_⟩ <;> (rintro rfl; revert h; decide)
theorem lv1_two {lv x : Int} (h : sd x ≠ 0) : lv <= lv1 lv x /\ lv1 lv x <= lv + 2 /\ ((lv1 lv x) % 2 = 1 ↔ x = 2) /\ (x = 4 \/ x = 7 -> lv1 lv x ≠ lv) := by
 have hc := sided_cases h
 unfold lv1
 by_cases he : lv % 2 = 0
 ·rw [if_pos he]
  rcases hc with rfl | rfl | rfl | rfl
  ·rw [if_pos rfl]; omega
  ·rw [if_neg (by omega), if_pos rfl]; omega
  ·rw [if_neg (by omega), if_neg (by omega)]; omega
  ·rw [if_neg (by omega), if_neg (by omega)]; omega
 ·rw [if_neg he]
  rcases hc with rfl | rfl | rfl | rfl
  ·rw [if_neg (by omega)]; omega
  ·rw [if_pos rfl]; omega
  ·rw [if_neg (by omega)]; omega
  ·rw [if_neg (by omega)]; omega
def dp (x lv : Int) : Int := lv1 lv x - lv
def AR (t : List Int) (lv so eo : Int) (L : List Int) (E : Int) : Prop :=
 (¬ Good lv so eo /\ L = [] /\ E = 2) \/ (Good lv so eo /\ ¬ Ok t /\ L = [] /\ E = 50) \/ (Good lv so eo /\ Ok t /\ L = RS t lv so eo /\ E = 0)
def Lev (lv : Int) : Prop := 0 <= lv /\ lv <= 126
instance (lv : Int) : Decidable (Lev lv) := inferInstanceAs (Decidable (_ /\ _))
def AL (t : List Int) (lv : Int) (L : List Int) (E : Int) : Prop :=
 (¬ Lev lv /\ L = [] /\ E = 2) \/ (Lev lv /\ ¬ Sided t /\ L = [] /\ E = 50) \/ (Lev lv /\ Sided t /\ L = LS t lv /\ E = 0)
end Ne
end Go.Proofs.YtfcoebbblfcdoaaGreatDoor

/- Types of one direction, with blanks and signs: what the rules make of them: plain mathematics. -/
namespace Go.Proofs.YtfcoebbblfcdoaaGreatDoor
set_option linter.unusedVariables false
namespace We
end We
namespace Ne
theorem lv1_hi {lv x : Int} (h0 : 0 <= lv) (h : lv <= 125) (hx : sd x ≠ 0) : lv <= lv1 lv x /\ lv1 lv x <= 126 := by
 have h1 := lv1_two (lv := lv) hx
 refine ⟨h1.1, ?_⟩
 have hc := sided_cases hx
 unfold lv1
 split
 ·split
  ·omega
  ·split <;> omega
 ·split <;> omega
theorem levels_range {t : List Int} {lv so eo : Int} (h0 : 0 <= lv) (h : lv <= 125) (hso : so = 1 \/ so = 2) {i : Nat} (hi : i < t.length) : lv <= (LS (RS t lv so eo) lv).getD i 0 /\ (LS (RS t lv so eo) lv).getD i 0 <= 126 := by
 rw [LS_at _ _ (by rw [RS_len]; exact hi)]
 refine lv1_hi h0 h ?_
 obtain ⟨k1, k2⟩ := keeps t lv so eo hso hi
 by_cases hs : sd (t.getD i 0) = 0
 ·rcases k2 hs with e | e <;> rw [e] <;> decide
 ·rw [k1 hs]; exact hs
theorem levels_last {t : List Int} {b so : Int} (hb : b = 0 \/ b = 1) (h0 : 0 < t.length) (hs : sd (t.getD (t.length - 1) 0) = 0) : (LS (RS t b so (1 + b)) b).getD (t.length - 1) 0 = b := by
 rw [LS_at _ _ (by rw [RS_len]; omega), RS_at _ _ _ _ (by omega)]
 have e1 : ah t.reverse (1 + b) (t.length - (t.length - 1)) = 1 + b := by
  rw [show t.length - (t.length - 1) = 0 + 1 by omega, ah_succ, getD_rev t (by omega), show t.length - 1 - 0 = t.length - 1 by omega, if_pos hs]
  rfl
 have e2 : r1 t b so (1 + b) (t.length - 1) = 1 + b := by
  unfold r1
  rw [if_pos hs, e1]
  split
  ·assumption
  ·rcases hb with rfl | rfl <;> decide
 rw [e2]
 rcases hb with rfl | rfl <;> decide
end Ne
end Go.Proofs.YtfcoebbblfcdoaaGreatDoor

/- What the rules leave: plain mathematics. No Go in sight. -/
namespace Go.Proofs.YtfcoebbblfcdoaaGreatDoor.We
set_option linter.unusedVariables false
def Not (x : Int) (t : List Int) : Prop := ∀ i, i < t.length -> ¬ t.getD i 0 = x
theorem pv_cases (r : Nat) (s : Int) (t : List Int) (i : Nat) : pv r s t (i + 1) = t.getD i 0 \/ (r = 1 /\ t.getD i 0 = 9 /\ pv r s t (i + 1) = mk (pv r s t i)) \/ (r = 2 /\ t.getD i 0 = 4 /\ strong t s i = 3 /\ pv r s t (i + 1) = 7) \/ (r = 3 /\ t.getD i 0 = 3 /\ pv r s t (i + 1) = 2) \/ (r = 4 /\ (t.getD i 0 = 5 \/ t.getD i 0 = 8) /\ (pv r s t (i + 1) = 4 \/ pv r s t (i + 1) = 7)) \/ (r = 5 /\ t.getD i 0 = 6 /\ pv r s t (i + 1) = 4) \/ (r = 6 /\ (t.getD i 0 = 5 \/ t.getD i 0 = 6 \/ t.getD i 0 = 8) /\ pv r s t (i + 1) = 14) \/ (r = 7 /\ t.getD i 0 = 4 /\ strong t s i = 1 /\ pv r s t (i + 1) = 1) := by
 rw [pv_succ]
 generalize pv r s t i = p
 unfold one
 split
 ·split
  ·rename_i h; exact .inr (.inl ⟨rfl, h, rfl⟩)
  ·exact .inl rfl
 ·split
  ·rename_i h; exact .inr (.inr (.inl ⟨rfl, h.1, h.2, rfl⟩))
  ·exact .inl rfl
 ·split
  ·rename_i h; exact .inr (.inr (.inr (.inl ⟨rfl, h, rfl⟩)))
  ·exact .inl rfl
 ·split
  ·rename_i h
   exact .inr (.inr (.inr (.inr (.inl ⟨rfl, by omega, by omega⟩))))
  ·exact .inl rfl
 ·split
  ·rename_i h; exact .inr (.inr (.inr (.inr (.inr (.inl ⟨rfl, h.1, rfl⟩)))))
  ·exact .inl rfl
 ·split
  ·rename_i h; exact .inr (.inr (.inr (.inr (.inr (.inr (.inl ⟨rfl, h, rfl⟩))))))
  ·exact .inl rfl
 ·split
  ·rename_i h; exact .inr (.inr (.inr (.inr (.inr (.inr (.inr ⟨rfl, h.1, h.2, rfl⟩))))))
  ·exact .inl rfl
 ·exact .inl rfl
theorem mk_ne {x a : Int} (h1 : ¬ x = 14) (h2 : ¬ a = x) : ¬ mk a = x := by
 unfold mk
 split
 ·omega
 ·exact h2
theorem one_marks {s : Int} (hs : Side s) (t : List Int) : ∀ i, ¬ pv 1 s t i = 9 := by
 intro i
 induction i with
 | zero => show ¬ s = 9; unfold Side at hs; omega
 | succ i ih =>
  have e : pv 1 s t (i + 1) = if t.getD i 0 = 9 then mk (pv 1 s t i) else t.getD i 0 := rfl
  rw [e]
  split
  ·exact mk_ne (by omega) ih
  ·assumption
theorem not_marks {s : Int} (hs : Side s) (t : List Int) : Not 9 (R 1 s t) := by
 intro i hi
 rw [R_len] at hi
 rw [R_at hi]
 exact one_marks hs t _
theorem not_al (s : Int) (t : List Int) : Not 3 (R 3 s t) := by
 intro i hi
 rw [R_len] at hi
 rw [R_at hi]
 have e : pv 3 s t (i + 1) = if t.getD i 0 = 3 then 2 else t.getD i 0 := rfl
 rw [e]
 split
 ·omega
 ·assumption
theorem not_six (s : Int) (t : List Int) (x : Int) (hx : x = 5 \/ x = 6 \/ x = 8) : Not x (R 6 s t) := by
 intro i hi
 rw [R_len] at hi
 rw [R_at hi]
 have e : pv 6 s t (i + 1) = if t.getD i 0 = 5 \/ t.getD i 0 = 6 \/ t.getD i 0 = 8 then 14 else t.getD i 0 := rfl
 rw [e]
 split <;> omega
theorem Not.R {r : Nat} {s x : Int} {t : List Int} (h : Not x t) (hr : ¬ r = 1) (hx : x = 9 \/ x = 3 \/ x = 5 \/ x = 6 \/ x = 8) : Not x (R r s t) := by
 intro i hi
 rw [R_len] at hi
 rw [R_at hi]
 have h1 := h i hi
 have h2 := pv_cases r s t i
 omega
theorem gone {s : Int} (hs : Side s) (t : List Int) (x : Int) (hx : x = 9 \/ x = 3 \/ x = 5 \/ x = 6 \/ x = 8) : Not x (RR s t 7) := by
 show Not x (We.R 7 s (We.R 6 s (We.R 5 s (We.R 4 s (We.R 3 s (We.R 2 s (We.R 1 s t)))))))
 by_cases h9 : x = 9
 ·subst h9
  exact ((((((not_marks hs t).R (by omega) (by omega)).R (by omega) (by omega)).R (by omega) (by omega)).R (by omega) (by omega)).R (by omega) (by omega)).R (by omega) (by omega)
 ·by_cases h3 : x = 3
  ·subst h3
   exact ((((not_al s _).R (by omega) (by omega)).R (by omega) (by omega)).R (by omega) (by omega)).R (by omega) (by omega)
  ·exact (not_six s _ x (by omega)).R (by omega) (by omega)
def Kept (x : Int) : Prop := x = 1 \/ x = 2 \/ 11 <= x
theorem kept_pv {r : Nat} {s : Int} {t : List Int} {i : Nat} (h : Kept (t.getD i 0)) : pv r s t (i + 1) = t.getD i 0 := by
 have h2 := pv_cases r s t i
 unfold Kept at h
 omega
theorem kept_RR {s : Int} {t : List Int} {i : Nat} (hi : i < t.length) (h : Kept (t.getD i 0)) : ∀ k, (RR s t k).getD i 0 = t.getD i 0 := by
 intro k
 induction k with
 | zero => rfl
 | succ k ih =>
  rw [RR_succ, R_at (by rw [RR_len]; exact hi), kept_pv (by rw [ih]; exact h), ih]
theorem strong_seven (s : Int) (t : List Int) : ∀ i, i <= t.length -> strong (R 7 s t) s i = strong t s i := by
 intro i
 induction i with
 | zero => intro _; rfl
 | succ i ih =>
  intro hi
  rw [strong, strong, R_at (by omega), ih (by omega)]
  have h2 := pv_cases 7 s t i
  rcases h2 with h | h | h | h | h | h | h | h
  ·rw [h]
  ·omega
  ·omega
  ·omega
  ·omega
  ·omega
  ·omega
  ·rw [if_pos (by omega), if_neg (by omega)]
   omega
theorem seven_num {s : Int} {t : List Int} {i : Nat} (hi : i < t.length) (h : (R 7 s t).getD i 0 = 4) : ¬ strong (R 7 s t) s i = 1 := by
 rw [strong_seven s t i (by omega)]
 rw [R_at hi] at h
 intro hst
 have e : pv 7 s t (i + 1) = if t.getD i 0 = 4 /\ strong t s i = 1 then 1 else t.getD i 0 := rfl
 rw [e] at h
 split at h
 ·omega
 ·rename_i h2; exact h2 ⟨h, hst⟩
structure Done (s : Int) (t : List Int) : Prop where
 no : ∀ x, (x = 9 \/ x = 3 \/ x = 5 \/ x = 6 \/ x = 8) -> Not x t
 num : ∀ i, i < t.length -> t.getD i 0 = 4 -> ¬ strong t s i = 1
theorem Done.no3 {s : Int} {t : List Int} (hs : Side s) (h : Done s t) : ∀ i, i <= t.length -> ¬ strong t s i = 3 := by
 intro i
 induction i with
 | zero => intro _; show ¬ s = 3; unfold Side at hs; omega
 | succ i ih =>
  intro hi
  rw [strong]
  split
  ·exact h.no 3 (by omega) i (by omega)
  ·exact ih (by omega)
theorem Done.same {s : Int} {t : List Int} (hs : Side s) (h : Done s t) (r : Nat) : R r s t = t := by
 refine ext_getD (R_len _ _ _) fun i hi => ?_
 rw [R_len] at hi
 rw [R_at hi]
 have h9 := h.no 9 (by omega) i hi
 have h3 := h.no 3 (by omega) i hi
 have h5 := h.no 5 (by omega) i hi
 have h6 := h.no 6 (by omega) i hi
 have h8 := h.no 8 (by omega) i hi
 have hn := h.num i hi
 have h2 := pv_cases r s t i
 have hst : ¬ (t.getD i 0 = 4 /\ strong t s i = 3 /\ r = 2) := by
  rintro ⟨a, b, _⟩
  exact h.no3 hs i (by omega) b
 rcases h2 with q | q | q | q | q | q | q | q
 ·exact q
 ·exact absurd q.2.1 h9
 ·exact absurd ⟨q.2.1, q.2.2.1, q.1⟩ hst
 ·exact absurd q.2.1 h3
 ·rcases q.2.1 with q | q
  ·exact absurd q h5
  ·exact absurd q h8
 ·exact absurd q.2.1 h6
 ·rcases q.2.1 with q | q | q
  ·exact absurd q h5
  ·exact absurd q h6
  ·exact absurd q h8
 ·exact absurd q.2.2.1 (hn q.2.1)
theorem Done.RR {s : Int} {t : List Int} (hs : Side s) (h : Done s t) (k : Nat) : RR s t k = t := by
 induction k with
 | zero => rfl
 | succ k ih => rw [RR_succ, ih, h.same hs]
theorem done {s : Int} (hs : Side s) (t : List Int) : Done s (We.RR s t 7) := by
 refine ⟨fun x hx => gone hs t x hx, fun i hi h => ?_⟩
 have e : We.RR s t 7 = We.R 7 s (We.RR s t 6) := rfl
 rw [e] at hi h ⊢
 rw [R_len] at hi
 exact seven_num hi h
theorem twice {s : Int} (hs : Side s) (t : List Int) : We.RR s (We.RR s t 7) 7 = We.RR s t 7 := (done hs t).RR hs 7
end Go.Proofs.YtfcoebbblfcdoaaGreatDoor.We

/- Plain mathematics of pairs of brackets: who waits, who ends whom. No Go in sight. -/
namespace Go.Proofs.YtfcoebbblfcdoaaGreatDoor
set_option linter.unusedVariables false
namespace Br
/-- The state of the search: is it over; who waits, the last one first; the pairs, by their closing places. -/
structure St where
  off : Bool
  wt : List Nat
  ps : List (Nat × Nat)
section
variable (kd : Nat → Int) (mt : Nat → Nat → Bool)
/-- Those that wait, from the one on that i ends. -/
def fd (i : Nat) : List Nat → List Nat
  | [] => []
  | x :: r => if mt x i then x :: r else fd i r
def step (i : Nat) (s : St) : St :=
  if s.off then s else
  if kd i = 1 then (if s.wt.length = 63 then ⟨true, s.wt, s.ps⟩ else ⟨false, i :: s.wt, s.ps⟩)
  else if kd i = 2 then (match fd mt i s.wt with | [] => s | x :: r => ⟨false, r, s.ps ++ [(x, i)]⟩)
  else s
/-- Behind k places. -/
def at' : Nat → St
  | 0 => ⟨false, [], []⟩
  | k + 1 => step kd mt k (at' k)
def F (n : Nat) : List (Nat × Nat) := (at' kd mt n).ps
/-- Whom a place is ended by; 0: by none. -/
def pr : List (Nat × Nat) → Nat → Nat
  | [], _ => 0
  | p :: r, i => if p.1 = i then p.2 else pr r i
/-- The pairs by their opening places. -/
def PS (n : Nat) : List (Nat × Nat) := (List.range n).filterMap fun i => if 0 < pr (F kd mt n) i then some (i, pr (F kd mt n) i) else none
end
variable {kd : Nat → Int} {mt : Nat → Nat → Bool}
theorem fd_suffix (i : Nat) : ∀ W : List Nat, ∃ pre, W = pre ++ fd mt i W
  | [] => ⟨[], rfl⟩
  | x :: r => by
    rw [fd]
    by_cases h : mt x i
    · rw [if_pos h]; exact ⟨[], rfl⟩
    · rw [if_neg h]
      obtain ⟨pre, e⟩ := fd_suffix i r
      exact ⟨x :: pre, by rw [List.cons_append, ← e]⟩
theorem fd_hd (i : Nat) : ∀ (W : List Nat) (x : Nat) (r : List Nat), fd mt i W = x :: r → mt x i = true
  | [], x, r, h => by cases h
  | y :: q, x, r, h => by
    rw [fd] at h
    by_cases hm : mt y i
    · rw [if_pos hm] at h
      simp only [List.cons.injEq] at h
      rw [← h.1]; exact hm
    · rw [if_neg hm] at h
      exact fd_hd i q x r h
/-- What is known on the way. -/
structure Inv (kd : Nat → Int) (mt : Nat → Nat → Bool) (k : Nat) (s : St) : Prop where
  wlt : ∀ x ∈ s.wt, x < k ∧ kd x = 1
  wdec : s.wt.Pairwise (· > ·)
  wlen : s.wt.length ≤ 63
  p1 : ∀ p ∈ s.ps, p.1 < p.2 ∧ p.2 < k ∧ kd p.1 = 1 ∧ kd p.2 = 2 ∧ mt p.1 p.2 = true
  rise : s.ps.Pairwise fun p q => p.2 < q.2 ∧ (q.1 < p.1 ∨ p.2 < q.1)
  apart : ∀ x ∈ s.wt, ∀ p ∈ s.ps, x < p.1 ∨ p.2 < x
  cnt : 2 * s.ps.length + s.wt.length ≤ k
theorem inv (k : Nat) : Inv kd mt k (at' kd mt k) := by
  induction k with
  | zero => exact ⟨by simp [at'], by simp [at'], by simp [at'], by simp [at'], by simp [at'], by simp [at'], by simp [at']⟩
  | succ k ih =>
    rw [at']
    generalize at' kd mt k = s0 at ih
    obtain ⟨off, wt, ps⟩ := s0
    have keep : Inv kd mt (k + 1) ⟨off, wt, ps⟩ := ⟨fun x hx => ⟨by have := (ih.wlt x hx).1; omega, (ih.wlt x hx).2⟩, ih.wdec, ih.wlen, fun p hp => by have := ih.p1 p hp; exact ⟨this.1, by omega, this.2.2⟩, ih.rise, ih.apart, by have := ih.cnt; omega⟩
    unfold step
    cases off with
    | true => exact keep
    | false =>
      simp only [Bool.false_eq_true, if_false]
      by_cases h1 : kd k = 1
      · rw [if_pos h1]
        by_cases h6 : wt.length = 63
        · rw [if_pos h6]
          exact ⟨keep.wlt, keep.wdec, keep.wlen, keep.p1, keep.rise, keep.apart, keep.cnt⟩
        · rw [if_neg h6]
          have hl := ih.wlen
          refine ⟨?_, ?_, by simp only [List.length_cons]; simp only at hl; omega, keep.p1, keep.rise, ?_, by have := ih.cnt; simp only [List.length_cons] at this ⊢; omega⟩
          · intro x hx
            simp only [List.mem_cons] at hx
            rcases hx with rfl | hx
            · exact ⟨by omega, h1⟩
            · exact keep.wlt x hx
          · exact List.pairwise_cons.2 ⟨fun x hx => (ih.wlt x hx).1, ih.wdec⟩
          · intro x hx p hp
            simp only [List.mem_cons] at hx
            rcases hx with rfl | hx
            · exact .inr (ih.p1 p hp).2.1
            · exact ih.apart x hx p hp
      · rw [if_neg h1]
        by_cases h2 : kd k = 2
        · rw [if_pos h2]
          cases hf : fd mt k wt with
          | nil => exact keep
          | cons x r =>
            simp only
            obtain ⟨pre, e⟩ := fd_suffix (mt := mt) k wt
            rw [hf] at e
            have hmt := fd_hd k wt x r hf
            have hw := ih.wlt
            have hd := ih.wdec
            have ha := ih.apart
            have hl := ih.wlen
            simp only [e] at hw hd ha hl
            have hxm : x ∈ pre ++ x :: r := by simp
            have hrm : ∀ y ∈ r, y ∈ pre ++ x :: r := fun y hy => by simp [hy]
            have hd2 := (List.pairwise_append.1 hd).2.1
            refine ⟨fun y hy => ⟨by have := (hw y (hrm y hy)).1; omega, (hw y (hrm y hy)).2⟩, (List.pairwise_cons.1 hd2).2, by simp only [List.length_append, List.length_cons] at hl; simp only; omega, ?_, ?_, ?_, by have := ih.cnt; rw [e] at this; simp only [List.length_append, List.length_cons, List.length_nil] at this ⊢; omega⟩
            · intro p hp
              simp only [List.mem_append, List.mem_cons, List.not_mem_nil, or_false] at hp
              rcases hp with hp | rfl
              · exact keep.p1 p hp
              · exact ⟨(hw x hxm).1, by simp only; omega, (hw x hxm).2, h2, hmt⟩
            · refine List.pairwise_append.2 ⟨ih.rise, List.pairwise_singleton _ _, fun p hp q hq => ?_⟩
              simp only [List.mem_cons, List.not_mem_nil, or_false] at hq
              subst hq
              exact ⟨(ih.p1 p hp).2.1, ha x hxm p hp⟩
            · intro y hy p hp
              simp only [List.mem_append, List.mem_cons, List.not_mem_nil, or_false] at hp
              rcases hp with hp | rfl
              · exact ha y (hrm y hy) p hp
              · exact .inl ((List.pairwise_cons.1 hd2).1 y hy)
        · rw [if_neg h2]; exact keep
theorem step_off {i : Nat} {s : St} (h : s.off = true) : step kd mt i s = s := by unfold step; rw [if_pos h]
theorem at_off {k n : Nat} (h : (at' kd mt k).off = true) (hk : k ≤ n) : at' kd mt n = at' kd mt k := by
  induction n with
  | zero => obtain rfl : k = 0 := by omega
            rfl
  | succ n ih =>
    by_cases e : k = n + 1
    · rw [e]
    · have := ih (by omega)
      rw [at', this, step_off h]
theorem step_full {k : Nat} {wt : List Nat} {ps : List (Nat × Nat)} (hs : at' kd mt k = ⟨false, wt, ps⟩) (h1 : kd k = 1) (h6 : wt.length = 63) : at' kd mt (k + 1) = ⟨true, wt, ps⟩ := by
  rw [at', hs]; unfold step; simp [h1, h6]
theorem step_open {k : Nat} {wt : List Nat} {ps : List (Nat × Nat)} (hs : at' kd mt k = ⟨false, wt, ps⟩) (h1 : kd k = 1) (h6 : ¬ wt.length = 63) : at' kd mt (k + 1) = ⟨false, k :: wt, ps⟩ := by
  rw [at', hs]; unfold step; simp [h1, h6]
theorem step_none {k : Nat} {wt : List Nat} {ps : List (Nat × Nat)} (hs : at' kd mt k = ⟨false, wt, ps⟩) (h2 : kd k = 2) (hf : fd mt k wt = []) : at' kd mt (k + 1) = ⟨false, wt, ps⟩ := by
  rw [at', hs]; unfold step; simp [h2, hf]
theorem step_some {k : Nat} {wt : List Nat} {ps : List (Nat × Nat)} (hs : at' kd mt k = ⟨false, wt, ps⟩) (h2 : kd k = 2) {x : Nat} {r : List Nat} (hf : fd mt k wt = x :: r) : at' kd mt (k + 1) = ⟨false, r, ps ++ [(x, k)]⟩ := by
  rw [at', hs]; unfold step; simp [h2, hf]
theorem step_skip {k : Nat} {wt : List Nat} {ps : List (Nat × Nat)} (hs : at' kd mt k = ⟨false, wt, ps⟩) (h1 : ¬ kd k = 1) (h2 : ¬ kd k = 2) : at' kd mt (k + 1) = ⟨false, wt, ps⟩ := by
  rw [at', hs]; unfold step; simp [h1, h2]
/-- The search that is over at k has found all. -/
theorem F_full {k n : Nat} {wt : List Nat} {ps : List (Nat × Nat)} (hs : at' kd mt k = ⟨false, wt, ps⟩) (h1 : kd k = 1) (h6 : wt.length = 63) (hk : k < n) : F kd mt n = ps := by
  have e := step_full hs h1 h6
  unfold F
  rw [at_off (k := k + 1) (by rw [e]) (by omega), e]
theorem F_p {n : Nat} : ∀ p ∈ F kd mt n, p.1 < p.2 ∧ p.2 < n ∧ kd p.1 = 1 ∧ kd p.2 = 2 ∧ mt p.1 p.2 = true := (inv n).p1
theorem F_rise {n : Nat} : (F kd mt n).Pairwise fun p q => p.2 < q.2 ∧ (q.1 < p.1 ∨ p.2 < q.1) := (inv n).rise
theorem F_nd {n : Nat} : (F kd mt n).Nodup := F_rise.imp fun h => by rintro rfl; omega
/-- Two of them: the same one, or apart. -/
theorem F_two {n : Nat} {p q : Nat × Nat} (hp : p ∈ F kd mt n) (hq : q ∈ F kd mt n) : p = q ∨ (p.2 < q.2 ∧ (q.1 < p.1 ∨ p.2 < q.1)) ∨ (q.2 < p.2 ∧ (p.1 < q.1 ∨ q.2 < p.1)) := by
  have h := F_rise (kd := kd) (mt := mt) (n := n)
  generalize F kd mt n = l at *
  induction l with
  | nil => cases hp
  | cons a l ih =>
    obtain ⟨h1, h2⟩ := List.pairwise_cons.1 h
    simp only [List.mem_cons] at hp hq
    rcases hp with rfl | hp <;> rcases hq with rfl | hq
    · exact .inl rfl
    · exact .inr (.inl (h1 q hq))
    · exact .inr (.inr (h1 p hp))
    · exact ih hp hq h2
theorem F_opens {n : Nat} {p q : Nat × Nat} (hp : p ∈ F kd mt n) (hq : q ∈ F kd mt n) (h : p.1 = q.1) : p = q := by
  have h1 := F_p p hp
  have h2 := F_p q hq
  rcases F_two hp hq with h3 | h3 | h3
  · exact h3
  · omega
  · omega
theorem pr_mem : ∀ (l : List (Nat × Nat)) (i : Nat), 0 < pr l i → (i, pr l i) ∈ l
  | [], i, h => by simp [pr] at h
  | p :: r, i, h => by
    rw [pr] at h ⊢
    by_cases e : p.1 = i
    · rw [if_pos e]; subst e; exact List.mem_cons_self
    · rw [if_neg e] at h ⊢
      exact List.mem_cons_of_mem _ (pr_mem r i h)
theorem pr_of (l : List (Nat × Nat)) (h : ∀ p ∈ l, ∀ q ∈ l, p.1 = q.1 → p = q) (p : Nat × Nat) (hp : p ∈ l) : pr l p.1 = p.2 := by
  induction l with
  | nil => cases hp
  | cons a l ih =>
    rw [pr]
    by_cases e : a.1 = p.1
    · rw [if_pos e]; rw [h a List.mem_cons_self p hp e]
    · rw [if_neg e]
      simp only [List.mem_cons] at hp
      rcases hp with rfl | hp
      · exact absurd rfl e
      · exact ih (fun p hp q hq => h p (List.mem_cons_of_mem _ hp) q (List.mem_cons_of_mem _ hq)) hp
theorem mem_PS {n : Nat} {p : Nat × Nat} : p ∈ PS kd mt n ↔ p ∈ F kd mt n := by
  unfold PS
  rw [List.mem_filterMap]
  constructor
  · rintro ⟨i, hi, h⟩
    by_cases h0 : 0 < pr (F kd mt n) i
    · rw [if_pos h0] at h
      simp only [Option.some.injEq] at h
      subst h
      exact pr_mem _ _ h0
    · rw [if_neg h0] at h; cases h
  · intro hp
    have h1 := F_p p hp
    have h2 := pr_of (F kd mt n) (fun a ha b hb => F_opens ha hb) p hp
    exact ⟨p.1, by rw [List.mem_range]; omega, by rw [h2, if_pos (by omega)]⟩
theorem PS_rise {n : Nat} : (PS kd mt n).Pairwise fun p q => p.1 < q.1 := by
  unfold PS
  refine List.Pairwise.filterMap _ ?_ (List.pairwise_lt_range (n := n))
  intro a b hab p hp q hq
  by_cases h0 : 0 < pr (F kd mt n) a
  · rw [if_pos h0] at hp
    by_cases h1 : 0 < pr (F kd mt n) b
    · rw [if_pos h1] at hq
      simp only [Option.some.injEq] at hp hq
      subst hp; subst hq; exact hab
    · rw [if_neg h1] at hq; cases hq
  · rw [if_neg h0] at hp; cases hp
theorem PS_nd {n : Nat} : (PS kd mt n).Nodup := PS_rise.imp fun h => by rintro rfl; omega
theorem PS_perm {n : Nat} : (PS kd mt n).Perm (F kd mt n) := (List.perm_ext_iff_of_nodup PS_nd F_nd).2 fun p => mem_PS
/-- Whatever is sorted by opening places, and holds the pairs, is this. -/
theorem PS_eq {n : Nat} {l : List (Nat × Nat)} (hp : l.Perm (F kd mt n)) (hs : l.Pairwise fun p q => ¬ q.1 < p.1) : l = PS kd mt n := by
  refine List.Perm.eq_of_pairwise (le := fun p q : Nat × Nat => ¬ q.1 < p.1) ?_ hs (PS_rise.imp fun h => by omega) (hp.trans PS_perm.symm)
  intro a b ha hb h1 h2
  exact F_opens (hp.mem_iff.1 ha) (mem_PS.1 hb) (by omega)
theorem PS_len {n : Nat} : (PS kd mt n).length = (F kd mt n).length := PS_perm.length_eq
theorem F_len {n : Nat} : (F kd mt n).length ≤ n := by
  have h := PS_len (kd := kd) (mt := mt) (n := n)
  rw [← h]
  unfold PS
  exact Nat.le_trans (List.length_filterMap_le _ _) (by simp)
theorem ps_len {k : Nat} {wt : List Nat} {ps : List (Nat × Nat)} {o : Bool} (hs : at' kd mt k = ⟨o, wt, ps⟩) : 2 * ps.length + wt.length ≤ k := by
  have := (inv (kd := kd) (mt := mt) k).cnt; rw [hs] at this; exact this
end Br
end Go.Proofs.YtfcoebbblfcdoaaGreatDoor
