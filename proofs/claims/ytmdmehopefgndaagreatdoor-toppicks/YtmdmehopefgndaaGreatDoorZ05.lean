import Derived.Test.YtmdmehopefgndaaGreatDoorZ01
/- Isolates: plain mathematics. No Go in sight. -/
namespace Go.Proofs.YtmdmehopefgndaaGreatDoor.Iso
set_option linter.unusedVariables false
/-- An initiator. -/
def st (x : Int) : Bool := x == 20 || x == 21 || x == 22
/-- How many more isolates lie open behind a class: an initiator 1, a PDI -1. -/
def turn (x : Int) : Int := if st x then 1 else if x = 23 then -1 else 0
theorem st_23 {x : Int} (h : st x = true) : ¬ x = 23 := by
  intro e; subst e; revert h; decide
/-- The initiators that wait, the last one first. -/
def push (s : List Nat) (k : Nat) (x : Int) : List Nat := if st x then k :: s else if x = 23 then s.tail else s
def stk (c : List Int) : Nat → List Nat
  | 0 => []
  | k + 1 => push (stk c k) k (c.getD k 0)
/-- How far an initiator's PDI is off, with o others open. -/
def ptl : Nat → List Int → Nat
  | _, [] => 0
  | o, x :: r => if st x then ptl (o + 1) r + 1 else if x = 23 then (if o = 0 then 0 else ptl (o - 1) r + 1) else ptl o r + 1
def partner (c : List Int) (i : Nat) : Nat := i + 1 + ptl 0 (c.drop (i + 1))
theorem ptl_le (l : List Int) : ∀ o, ptl o l ≤ l.length := by
  induction l with
  | nil => intro o; simp [ptl]
  | cons x r ih =>
    intro o
    have h1 := ih (o + 1); have h2 := ih (o - 1); have h3 := ih o
    unfold ptl
    simp only [List.length_cons]
    split
    · omega
    · split
      · split <;> omega
      · omega
theorem partner_gt (c : List Int) (i : Nat) : i < partner c i := by unfold partner; omega
theorem partner_le (c : List Int) (i : Nat) (h : i < c.length) : partner c i ≤ c.length := by
  have := ptl_le (c.drop (i + 1)) 0
  rw [List.length_drop] at this
  unfold partner; omega
theorem drop_at (c : List Int) (k : Nat) (h : k < c.length) : c.drop k = c.getD k 0 :: c.drop (k + 1) := by
  rw [List.drop_eq_getElem_cons h]; simp [List.getD, List.getElem?_eq_getElem h]
theorem stk_lt (c : List Int) : ∀ k i, i ∈ stk c k → i < k ∧ st (c.getD i 0) = true := by
  intro k
  induction k with
  | zero => intro i h; simp [stk] at h
  | succ k ih =>
    intro i h
    unfold stk push at h
    split at h
    · rename_i hs
      rcases List.mem_cons.1 h with rfl | h
      · exact ⟨by omega, hs⟩
      · have := ih i h; exact ⟨by omega, this.2⟩
    · split at h
      · have := ih i (List.mem_of_mem_tail h); exact ⟨by omega, this.2⟩
      · have := ih i h; exact ⟨by omega, this.2⟩
theorem stk_len (c : List Int) (k i : Nat) (h : i ∈ stk c k) : i < c.length := by
  have h2 := (stk_lt c k i h).2
  by_cases hi : i < c.length
  · exact hi
  · rw [show c.getD i 0 = 0 from by simp [List.getD, List.getElem?_eq_none (Nat.le_of_not_lt hi)]] at h2
    exact absurd h2 (by decide)
theorem stk_sorted (c : List Int) : ∀ k, (stk c k).Pairwise (· > ·) := by
  intro k
  induction k with
  | zero => simp [stk]
  | succ k ih =>
    unfold stk push
    split
    · exact List.pairwise_cons.2 ⟨fun j hj => (stk_lt c k j hj).1, ih⟩
    · split
      · exact ih.tail
      · exact ih
theorem stk_size (c : List Int) (k : Nat) : (stk c k).length ≤ k := by
  induction k with
  | zero => simp [stk]
  | succ k ih =>
    unfold stk push
    split
    · simp; omega
    · split
      · simp; omega
      · omega
theorem ptl_step {c : List Int} {k i : Nat} {l s : List Nat} {p : Nat} (h : stk c k = l ++ i :: s) (hp : ptl l.length (c.drop k) = p + 1) :
    ∃ l', stk c (k + 1) = l' ++ i :: s ∧ ptl l'.length (c.drop (k + 1)) = p := by
  by_cases hk : k < c.length
  · rw [drop_at c k hk] at hp
    unfold ptl at hp
    unfold stk push
    rw [h]
    split at hp
    · rename_i hs
      exact ⟨k :: l, by rw [if_pos hs]; rfl, by simpa using hp⟩
    · rename_i hs
      rw [if_neg hs]
      split at hp
      · rename_i hx
        rw [if_pos hx]
        cases l with
        | nil => simp at hp
        | cons y l => exact ⟨l, rfl, by simpa using hp⟩
      · rename_i hx
        rw [if_neg hx]
        exact ⟨l, rfl, by simpa using hp⟩
  · rw [List.drop_eq_nil_of_le (Nat.le_of_not_lt hk)] at hp
    simp [ptl] at hp
theorem ptl_zero {c : List Int} {k o : Nat} (hk : k < c.length) (h : ptl o (c.drop k) = 0) : o = 0 ∧ c.getD k 0 = 23 := by
  rw [drop_at c k hk] at h
  unfold ptl at h
  split at h
  · omega
  · split at h
    · rename_i h2
      split at h
      · rename_i h3; exact ⟨h3, h2⟩
      · omega
    · omega
theorem stk_init (c : List Int) (i : Nat) (h : st (c.getD i 0) = true) : stk c (i + 1) = i :: stk c i := by
  rw [stk, push, if_pos h]
/-- Between an initiator and its PDI the initiator waits. -/
theorem stk_between {c : List Int} {i : Nat} (h : st (c.getD i 0) = true) : ∀ d, i + 1 + d ≤ partner c i → ∃ l, stk c (i + 1 + d) = l ++ i :: stk c i ∧ ptl l.length (c.drop (i + 1 + d)) = partner c i - (i + 1 + d) := by
  intro d
  induction d with
  | zero => intro _; exact ⟨[], by rw [Nat.add_zero, stk_init c i h]; rfl, by unfold partner; simp⟩
  | succ d ih =>
    intro hd
    obtain ⟨l, h1, h2⟩ := ih (by omega)
    obtain ⟨l', h3, h4⟩ := ptl_step (p := partner c i - (i + 1 + (d + 1))) h1 (by omega)
    exact ⟨l', h3, h4⟩
theorem stk_mid {c : List Int} {i j : Nat} (h : st (c.getD i 0) = true) (h1 : i < j) (h2 : j ≤ partner c i) : ∃ l, stk c j = l ++ i :: stk c i ∧ ptl l.length (c.drop j) = partner c i - j := by
  obtain ⟨d, rfl⟩ : ∃ d, j = i + 1 + d := ⟨j - (i + 1), by omega⟩
  exact stk_between h d h2
theorem partner_pdi {c : List Int} {i : Nat} (h : st (c.getD i 0) = true) (hn : partner c i < c.length) : c.getD (partner c i) 0 = 23 ∧ stk c (partner c i) = i :: stk c i ∧ stk c (partner c i + 1) = stk c i := by
  obtain ⟨l, h1, h2⟩ := stk_mid h (partner_gt c i) (Nat.le_refl _)
  rw [Nat.sub_self] at h2
  obtain ⟨h3, h4⟩ := ptl_zero hn h2
  have h5 : l = [] := List.length_eq_zero_iff.1 h3
  subst h5
  refine ⟨h4, h1, ?_⟩
  rw [stk, push, h4, if_neg (by decide), if_pos rfl, h1]
  rfl
theorem stk_gone {c : List Int} {i : Nat} (h : st (c.getD i 0) = true) (hn : partner c i < c.length) : ∀ d, i ∉ stk c (partner c i + 1 + d) := by
  intro d
  induction d with
  | zero =>
    rw [Nat.add_zero, (partner_pdi h hn).2.2]
    intro hm
    have := (stk_lt c i i hm).1
    omega
  | succ d ih =>
    intro hm
    rw [← Nat.add_assoc] at hm
    unfold stk push at hm
    have hg := partner_gt c i
    split at hm
    · rcases List.mem_cons.1 hm with h1 | h1
      · omega
      · exact ih h1
    · split at hm
      · exact ih (List.mem_of_mem_tail hm)
      · exact ih hm
theorem mem_stk (c : List Int) (i j : Nat) (hj : j ≤ c.length) : i ∈ stk c j ↔ st (c.getD i 0) = true ∧ i < j ∧ j ≤ partner c i := by
  constructor
  · intro h
    have h1 := stk_lt c j i h
    refine ⟨h1.2, h1.1, ?_⟩
    by_cases h2 : j ≤ partner c i
    · exact h2
    · obtain ⟨d, rfl⟩ : ∃ d, j = partner c i + 1 + d := ⟨j - (partner c i + 1), by omega⟩
      exact absurd h (stk_gone h1.2 (by omega) d)
  · rintro ⟨h1, h2, h3⟩
    obtain ⟨l, h4, _⟩ := stk_mid h1 h2 h3
    rw [h4]; simp
/-- Whose PDI a PDI is. -/
theorem head_iff {c : List Int} {k : Nat} (hk : k < c.length) (hx : c.getD k 0 = 23) (i : Nat) : (∃ s, stk c k = i :: s) ↔ st (c.getD i 0) = true ∧ partner c i = k := by
  constructor
  · rintro ⟨s, hs⟩
    have h1 : i ∈ stk c k := by rw [hs]; simp
    obtain ⟨h2, h3, h4⟩ := (mem_stk c i k (by omega)).1 h1
    refine ⟨h2, ?_⟩
    by_cases h5 : partner c i = k
    · exact h5
    · exfalso
      have h6 : i ∈ stk c (k + 1) := (mem_stk c i (k + 1) (by omega)).2 ⟨h2, by omega, by omega⟩
      rw [stk, push, hx, if_neg (by decide), if_pos rfl, hs, List.tail_cons] at h6
      have h7 := stk_sorted c k
      rw [hs] at h7
      have := (List.pairwise_cons.1 h7).1 i h6
      omega
  · rintro ⟨h1, rfl⟩
    exact ⟨_, (partner_pdi h1 hk).2.1⟩
def hd : List Nat → Int
  | [] => -1
  | i :: _ => (i : Int)
theorem hd_range (c : List Int) (k : Nat) : -1 ≤ hd (stk c k) ∧ hd (stk c k) < (k : Int) := by
  cases h : stk c k with
  | nil => simp [hd]; omega
  | cons i s =>
    have := (stk_lt c k i (by rw [h]; simp)).1
    simp [hd]; omega
/-- What Match tells of a place. -/
def mt (c : List Int) (j : Nat) : Int := if st (c.getD j 0) then (partner c j : Int) else if c.getD j 0 = 23 then hd (stk c j) else (j : Int)
def mAt (c : List Int) (k j : Nat) : Int := if st (c.getD j 0) then (if partner c j < k then (partner c j : Int) else (c.length : Int)) else if c.getD j 0 = 23 then hd (stk c j) else (j : Int)
/-- What Match has laid behind k rounds. -/
def ML (c : List Int) (k : Nat) : List Int := (List.range c.length).map fun j => if j < k then mAt c k j else 0
def MT (c : List Int) : List Int := (List.range c.length).map (mt c)
theorem ML_len (c : List Int) (k : Nat) : (ML c k).length = c.length := by simp [ML]
theorem MT_len (c : List Int) : (MT c).length = c.length := by simp [MT]
theorem MT_at (c : List Int) (j : Nat) (h : j < c.length) : (MT c).getD j 0 = mt c j := by
  simp [MT, List.getD, h]
theorem ML_zero (c : List Int) : ML c 0 = List.replicate c.length 0 := by
  apply List.ext_getElem
  · simp [ML]
  · intro j h1 h2; simp [ML]
theorem ML_end (c : List Int) : ML c c.length = MT c := by
  apply List.ext_getElem
  · simp [ML, MT]
  · intro j h1 h2
    have hj : j < c.length := by rw [ML_len] at h1; exact h1
    have hp := partner_le c j hj
    simp only [ML, MT, List.getElem_map, List.getElem_range, if_pos hj]
    unfold mAt mt
    split
    · split
      · rfl
      · rw [show partner c j = c.length from by omega]
    · rfl
/-- A place's answer changes in the round of its PDI alone. -/
theorem mAt_same {c : List Int} {k j : Nat} (h : st (c.getD j 0) = true → partner c j ≠ k) : mAt c (k + 1) j = mAt c k j := by
  unfold mAt
  split
  · rename_i hs
    have := h hs
    by_cases h1 : partner c j < k
    · rw [if_pos h1, if_pos (by omega)]
    · rw [if_neg h1, if_neg (by omega)]
  · rfl
theorem ML_set {c : List Int} {k : Nat} {v : Int} (hk : k < c.length) (hv : mAt c (k + 1) k = v) (h : ∀ j, j < k → st (c.getD j 0) = true → partner c j ≠ k) : ML c (k + 1) = (ML c k).set k v := by
  apply List.ext_getElem
  · simp [ML]
  · intro j h1 h2
    rw [List.getElem_set]
    simp only [ML, List.getElem_map, List.getElem_range]
    by_cases hj : k = j
    · subst hj
      rw [if_pos (by omega), if_pos rfl, hv]
    · rw [if_neg hj]
      by_cases h3 : j < k
      · rw [if_pos (by omega), if_pos h3, mAt_same (h j h3)]
      · rw [if_neg (by omega), if_neg h3]
theorem not_pdi {c : List Int} {k : Nat} (hk : k < c.length) (hx : ¬ c.getD k 0 = 23) (j : Nat) (hs : st (c.getD j 0) = true) : partner c j ≠ k := by
  rintro rfl
  exact hx (partner_pdi hs hk).1
theorem ML_init {c : List Int} {k : Nat} (hk : k < c.length) (hs : st (c.getD k 0) = true) : ML c (k + 1) = (ML c k).set k (c.length : Int) :=
  ML_set hk (by unfold mAt; rw [if_pos hs, if_neg (by have := partner_gt c k; omega)]) fun j _ h => not_pdi hk (st_23 hs) j h
theorem ML_plain {c : List Int} {k : Nat} (hk : k < c.length) (hs : ¬ st (c.getD k 0) = true) (hx : ¬ c.getD k 0 = 23) : ML c (k + 1) = (ML c k).set k (k : Int) :=
  ML_set hk (by unfold mAt; rw [if_neg hs, if_neg hx]) fun j _ h => not_pdi hk hx j h
theorem ML_alone {c : List Int} {k : Nat} (hk : k < c.length) (hx : c.getD k 0 = 23) (h0 : stk c k = []) : ML c (k + 1) = (ML c k).set k (-1) :=
  ML_set hk (by unfold mAt; rw [hx, if_neg (by decide), if_pos rfl, h0]; rfl) fun j _ h e => by
    obtain ⟨s, hs⟩ := (head_iff hk hx j).2 ⟨h, e⟩
    rw [h0] at hs; cases hs
theorem ML_pair {c : List Int} {k i : Nat} {s : List Nat} (hk : k < c.length) (hx : c.getD k 0 = 23) (h0 : stk c k = i :: s) : i < k ∧ ML c (k + 1) = ((ML c k).set k (i : Int)).set i (k : Int) := by
  have hi : i < k := (stk_lt c k i (by rw [h0]; simp)).1
  obtain ⟨hs, hp⟩ := (head_iff hk hx i).1 ⟨s, h0⟩
  refine ⟨hi, ?_⟩
  apply List.ext_getElem
  · simp [ML]
  · intro j h1 h2
    rw [List.getElem_set, List.getElem_set]
    simp only [ML, List.getElem_map, List.getElem_range]
    by_cases hj : i = j
    · subst hj
      rw [if_pos (by omega), if_pos rfl]
      unfold mAt
      rw [if_pos hs, if_pos (by omega), hp]
    · rw [if_neg hj]
      by_cases hj2 : k = j
      · subst hj2
        rw [if_pos (by omega), if_pos rfl]
        unfold mAt
        rw [hx, if_neg (by decide), if_pos rfl, h0]; rfl
      · rw [if_neg hj2]
        by_cases h3 : j < k
        · rw [if_pos (by omega), if_pos h3, mAt_same]
          intro h4 h5
          obtain ⟨s', hs'⟩ := (head_iff hk hx j).2 ⟨h4, h5⟩
          rw [h0] at hs'
          cases hs'
          exact hj rfl
        · rw [if_neg (by omega), if_neg h3]
/-- In how many isolates a place lies. -/
def dp (c : List Int) (k : Nat) : Nat := if c.getD k 0 = 23 then (stk c k).length - 1 else (stk c k).length
def DL (c : List Int) (k : Nat) : List Int := (List.range c.length).map fun j => if j < k then (dp c j : Int) else 0
def DP (c : List Int) : List Int := (List.range c.length).map fun j => (dp c j : Int)
theorem DL_len (c : List Int) (k : Nat) : (DL c k).length = c.length := by simp [DL]
theorem DP_len (c : List Int) : (DP c).length = c.length := by simp [DP]
theorem DP_at (c : List Int) (j : Nat) (h : j < c.length) : (DP c).getD j 0 = (dp c j : Int) := by
  simp [DP, List.getD, h]
theorem DL_zero (c : List Int) : DL c 0 = List.replicate c.length 0 := by
  apply List.ext_getElem
  · simp [DL]
  · intro j h1 h2; simp [DL]
theorem DL_end (c : List Int) : DL c c.length = DP c := by
  apply List.ext_getElem
  · simp [DL, DP]
  · intro j h1 h2
    have hj : j < c.length := by rw [DL_len] at h1; exact h1
    simp only [DL, DP, List.getElem_map, List.getElem_range, if_pos hj]
theorem DL_set (c : List Int) (k : Nat) : DL c (k + 1) = (DL c k).set k (dp c k : Int) := by
  apply List.ext_getElem
  · simp [DL]
  · intro j h1 h2
    rw [List.getElem_set]
    simp only [DL, List.getElem_map, List.getElem_range]
    by_cases hj : k = j
    · subst hj
      rw [if_pos (by omega), if_pos rfl]
    · rw [if_neg hj]
      by_cases h3 : j < k
      · rw [if_pos (by omega), if_pos h3]
      · rw [if_neg (by omega), if_neg h3]
/-- The number that are open, behind a class. -/
def nx (o : Nat) (x : Int) : Nat := if st x then o + 1 else if x = 23 then o - 1 else o
theorem stk_nx (c : List Int) (k : Nat) : (stk c (k + 1)).length = nx (stk c k).length (c.getD k 0) := by
  rw [show stk c (k + 1) = push (stk c k) k (c.getD k 0) from rfl]
  unfold push nx
  split
  · rfl
  · split
    · simp
    · rfl
/-- The base direction, with o open. -/
def bso : Nat → List Int → Int
  | _, [] => 0
  | o, x :: r => if o = 0 ∧ x = 1 then 0 else if o = 0 ∧ (x = 2 ∨ x = 3) then 1 else bso (nx o x) r
theorem bso_cons (o : Nat) (x : Int) (r : List Int) : bso o (x :: r) = if o = 0 ∧ x = 1 then 0 else if o = 0 ∧ (x = 2 ∨ x = 3) then 1 else bso (nx o x) r := rfl
theorem ptl_cons (o : Nat) (x : Int) (r : List Int) : ptl o (x :: r) = if st x then ptl (o + 1) r + 1 else if x = 23 then (if o = 0 then 0 else ptl (o - 1) r + 1) else ptl o r + 1 := rfl
theorem bso_two (l : List Int) : ∀ o, bso o l = 0 ∨ bso o l = 1 := by
  induction l with
  | nil => intro o; simp [bso]
  | cons x r ih =>
    intro o
    unfold bso
    split
    · exact .inl rfl
    · split
      · exact .inr rfl
      · exact ih _
/-- What an initiator hides is passed over. -/
theorem bso_skip (l : List Int) : ∀ o, bso (o + 1) l = bso 0 (l.drop (ptl o l)) := by
  induction l with
  | nil => intro o; simp [bso]
  | cons x r ih =>
    intro o
    rw [bso_cons, ptl_cons, if_neg (by omega), if_neg (by omega)]
    unfold nx
    by_cases hs : st x = true
    · rw [if_pos hs, if_pos hs, ih (o + 1), List.drop_succ_cons]
    · rw [if_neg hs, if_neg hs]
      by_cases hx : x = 23
      · rw [if_pos hx, if_pos hx]
        by_cases ho : o = 0
        · rw [if_pos ho, hx, ho, List.drop_zero, bso_cons, if_neg (by decide), if_neg (by decide)]
          rfl
        · rw [if_neg ho, List.drop_succ_cons, ← ih (o - 1)]
          congr 1; omega
      · rw [if_neg hx, if_neg hx, ih o, List.drop_succ_cons]
theorem strong_not {x : Int} (hs : st x = true) : ¬ x = 1 ∧ ¬ x = 2 ∧ ¬ x = 3 := by
  refine ⟨?_, ?_, ?_⟩ <;> (intro e; subst e; exact absurd hs (by decide))
theorem bso_init (l : List Int) (i : Nat) (hi : i < l.length) (hs : st (l.getD i 0) = true) : bso 0 (l.drop i) = bso 0 (l.drop (partner l i)) := by
  obtain ⟨h1, h2, h3⟩ := strong_not hs
  rw [drop_at l i hi, bso_cons, if_neg (fun h => h1 h.2), if_neg (fun h => h.2.elim h2 h3)]
  unfold nx
  rw [if_pos hs, bso_skip, List.drop_drop]
  rfl
/-- What lies in isolates may change. -/
theorem bso_hides {c e : List Int} (hl : e.length = c.length) (h : ∀ i, i < c.length → e.getD i 0 = c.getD i 0 ∨ (0 < (stk c i).length ∧ st (c.getD i 0) = false ∧ ¬ c.getD i 0 = 23 ∧ st (e.getD i 0) = false ∧ ¬ e.getD i 0 = 23)) :
    ∀ d k, k + d = c.length → bso (stk c k).length (e.drop k) = bso (stk c k).length (c.drop k) := by
  intro d
  induction d with
  | zero =>
    intro k hk
    rw [List.drop_eq_nil_of_le (by omega), List.drop_eq_nil_of_le (by omega)]
  | succ d ih =>
    intro k hk
    have h1 := ih (k + 1) (by omega)
    rw [stk_nx] at h1
    rw [drop_at c k (by omega), drop_at e k (by omega), bso_cons, bso_cons]
    rcases h k (by omega) with h2 | ⟨h2, h3, h4, h5, h6⟩
    · rw [h2, h1]
    · rw [if_neg (by omega), if_neg (by omega), if_neg (by omega), if_neg (by omega), ← h1]
      congr 1
      unfold nx
      rw [if_neg (by rw [h5]; decide), if_neg h6, if_neg (by rw [h3]; decide), if_neg h4]
/-- Two stretches. -/
theorem bso_joins (b : List Int) (a : List Int) : ∀ o, (bso o (a ++ b) = bso o a) ∨ (bso o a = 0 ∧ bso o (a ++ b) = bso (a.foldl nx o) b) := by
  induction a with
  | nil => intro o; exact .inr ⟨rfl, rfl⟩
  | cons x r ih =>
    intro o
    rw [List.cons_append, bso_cons, bso_cons]
    split
    · exact .inl rfl
    · split
      · exact .inl rfl
      · exact ih _
theorem stk_fold (c : List Int) : ∀ k, k ≤ c.length → (stk c k).length = (c.take k).foldl nx 0 := by
  intro k
  induction k with
  | zero => intro _; rfl
  | succ k ih =>
    intro hk
    rw [stk_nx, ih (by omega), take_snoc c k (by omega), List.foldl_append]
    rfl
theorem getD_app (a b : List Int) (i : Nat) (h : i < a.length) : (a ++ b).getD i 0 = a.getD i 0 := getD_left a b i h
/-- The first stretch waits as by itself. -/
theorem stk_left (a b : List Int) : ∀ k, k ≤ a.length → stk (a ++ b) k = stk a k := by
  intro k
  induction k with
  | zero => intro _; rfl
  | succ k ih =>
    intro hk
    rw [show stk (a ++ b) (k + 1) = push (stk (a ++ b) k) k ((a ++ b).getD k 0) from rfl, ih (by omega), getD_left a b k (by omega)]
    rfl
theorem stk_right (a b : List Int) (h : stk a a.length = []) : ∀ k, stk (a ++ b) (a.length + k) = (stk b k).map (a.length + ·) := by
  intro k
  induction k with
  | zero => rw [Nat.add_zero, stk_left a b _ (Nat.le_refl _), h]; rfl
  | succ k ih =>
    rw [show stk (a ++ b) (a.length + (k + 1)) = push (stk (a ++ b) (a.length + k)) (a.length + k) ((a ++ b).getD (a.length + k) 0) from rfl, ih, getD_right]
    rw [show stk b (k + 1) = push (stk b k) k (b.getD k 0) from rfl]
    unfold push
    split
    · rfl
    · split
      · rw [List.map_tail]
      · rfl
theorem ptl_left (b : List Int) (l : List Int) : ∀ o, ptl o l < l.length → ptl o (l ++ b) = ptl o l := by
  induction l with
  | nil => intro o h; simp at h
  | cons x r ih =>
    intro o h
    rw [ptl_cons, List.length_cons] at h
    rw [List.cons_append, ptl_cons, ptl_cons]
    split at h
    · rename_i hs; rw [if_pos hs, if_pos hs, ih _ (by omega)]
    · rename_i hs
      rw [if_neg hs, if_neg hs]
      split at h
      · rename_i hx
        rw [if_pos hx, if_pos hx]
        split at h
        · rename_i ho; rw [if_pos ho, if_pos ho]
        · rename_i ho; rw [if_neg ho, if_neg ho, ih _ (by omega)]
      · rename_i hx; rw [if_neg hx, if_neg hx, ih _ (by omega)]
theorem partner_left (a b : List Int) (i : Nat) (h : partner a i < a.length) : partner (a ++ b) i = partner a i := by
  have hg := partner_gt a i
  unfold partner at h ⊢
  rw [List.drop_append_of_le_length (by omega), ptl_left _ _ _ (by rw [List.length_drop]; omega)]
theorem partner_right (a b : List Int) (i : Nat) : partner (a ++ b) (a.length + i) = a.length + partner b i := by
  unfold partner
  rw [show a.length + i + 1 = a.length + (i + 1) from by omega, List.drop_append]
  rw [List.drop_eq_nil_of_le (by omega), show a.length + (i + 1) - a.length = i + 1 from by omega]
  simp; omega
theorem stk_shut {a : List Int} (h : ∀ i, i < a.length → st (a.getD i 0) = true → partner a i < a.length) : stk a a.length = [] := by
  cases hs : stk a a.length with
  | nil => rfl
  | cons i s =>
    have h1 : i ∈ stk a a.length := by rw [hs]; simp
    obtain ⟨h2, h3, h4⟩ := (mem_stk a i _ (Nat.le_refl _)).1 h1
    have := h i h3 h2
    omega
theorem mt_left {a b : List Int} (h : ∀ i, i < a.length → st (a.getD i 0) = true → partner a i < a.length) (i : Nat) (hi : i < a.length) : mt (a ++ b) i = mt a i := by
  unfold mt
  rw [getD_left a b i hi]
  split
  · rename_i hs; rw [partner_left a b i (h i hi hs)]
  · split
    · rw [stk_left a b i (by omega)]
    · rfl
theorem mt_right {a b : List Int} (h : stk a a.length = []) (i : Nat) (hb : b.getD i 0 = 23 → 0 ≤ mt b i) : mt (a ++ b) (a.length + i) = (a.length : Int) + mt b i := by
  unfold mt at hb ⊢
  rw [getD_right]
  split
  · rw [partner_right]; simp
  · rename_i hs
    split
    · rename_i hx
      have h0 := hb hx
      rw [if_neg hs, if_pos hx] at h0
      rw [stk_right a b h]
      cases hk : stk b i with
      | nil => rw [hk] at h0; simp [hd] at h0
      | cons j s => simp [hd]
    · simp
/-- As many PDIs as initiators wait. -/
theorem stk_pdis (c : List Int) (u : Nat) : ∀ j, j ≤ u → stk (c ++ List.replicate u 23) (c.length + j) = (stk c c.length).drop j := by
  intro j
  induction j with
  | zero => intro _; rw [Nat.add_zero, stk_left _ _ _ (Nat.le_refl _)]; rfl
  | succ j ih =>
    intro hj
    rw [show stk (c ++ List.replicate u 23) (c.length + (j + 1)) = push (stk (c ++ List.replicate u 23) (c.length + j)) (c.length + j) ((c ++ List.replicate u 23).getD (c.length + j) 0) from rfl, ih (by omega), getD_right]
    have hx : (List.replicate u (23 : Int)).getD j 0 = 23 := by simp [List.getD, show j < u from by omega]
    rw [hx]
    unfold push
    rw [if_neg (by decide), if_pos rfl, List.tail_drop]
/-- A count over the places below. -/
def cnt (p : Nat → Bool) : Nat → Nat
  | 0 => 0
  | k + 1 => cnt p k + (if p k then 1 else 0)
theorem cnt_congr {p q : Nat → Bool} : ∀ k, (∀ j, j < k → p j = q j) → cnt p k = cnt q k := by
  intro k
  induction k with
  | zero => intro _; rfl
  | succ k ih => intro h; rw [cnt, cnt, ih (fun j hj => h j (by omega)), h k (by omega)]
theorem cnt_le (p : Nat → Bool) (k : Nat) : cnt p k ≤ k := by
  induction k with
  | zero => exact Nat.le_refl _
  | succ k ih => rw [cnt]; split <;> omega
theorem cnt_sorted : ∀ k (l : List Nat), l.Pairwise (· > ·) → (∀ i ∈ l, i < k) → cnt (fun j => decide (j ∈ l)) k = l.length := by
  intro k
  induction k with
  | zero =>
    intro l _ h
    cases l with
    | nil => rfl
    | cons a l => exact absurd (h a (by simp)) (by omega)
  | succ k ih =>
    intro l hs h
    rw [cnt]
    by_cases hk : k ∈ l
    · cases l with
      | nil => cases hk
      | cons a l =>
        have hp := List.pairwise_cons.1 hs
        have ha : a = k := by
          rcases List.mem_cons.1 hk with h1 | h1
          · exact h1.symm
          · have h2 := hp.1 k h1; have h3 := h a (by simp); omega
        subst ha
        rw [if_pos (by simp), List.length_cons, ← ih l hp.2 (fun i hi => hp.1 i hi)]
        congr 1
        apply cnt_congr
        intro j hj
        have hja : ¬ j = a := by omega
        simp [hja]
    · rw [if_neg (by simpa using hk), Nat.add_zero]
      exact ih l hs fun i hi => by
        have h1 := h i hi
        rcases Nat.lt_or_ge i k with h2 | h2
        · exact h2
        · exact absurd (show k ∈ l by rw [show k = i from by omega]; exact hi) hk
/-- The depth as the document counts it. -/
theorem dp_cnt (c : List Int) (i : Nat) (hi : i < c.length) : cnt (fun j => st (c.getD j 0) && decide (i < partner c j)) i = dp c i := by
  have key : ∀ l : List Nat, l.Pairwise (· > ·) → (∀ j ∈ l, j < i) → (∀ j, j < i → (j ∈ l ↔ j ∈ stk c (i + 1))) → cnt (fun j => st (c.getD j 0) && decide (i < partner c j)) i = l.length := by
    intro l h1 h2 h3
    rw [← cnt_sorted i l h1 h2]
    apply cnt_congr
    intro j hj
    have h4 := h3 j hj
    rw [mem_stk c j (i + 1) (by omega)] at h4
    by_cases h5 : j ∈ l
    · obtain ⟨h6, _, h7⟩ := h4.1 h5
      have h8 : i < partner c j := by omega
      simp [h5, h8]; simpa using h6
    · have h6 : ¬ (st (c.getD j 0) = true ∧ i < partner c j) := fun h => h5 (h4.2 ⟨h.1, by omega, by omega⟩)
      rw [decide_eq_false h5]
      cases hs : st (c.getD j 0) with
      | false => rfl
      | true =>
        have : ¬ i < partner c j := fun h => h6 ⟨hs, h⟩
        simp [this]
  have hs := stk_sorted c i
  have hl := fun j hj => (stk_lt c i j hj).1
  unfold dp
  split
  · rename_i hx
    rw [← List.length_tail]
    refine key _ hs.tail (fun j hj => hl j (List.mem_of_mem_tail hj)) fun j hj => ?_
    rw [show stk c (i + 1) = push (stk c i) i (c.getD i 0) from rfl, push, hx, if_neg (by decide), if_pos rfl]
  · rename_i hx
    refine key _ hs hl fun j hj => ?_
    rw [show stk c (i + 1) = push (stk c i) i (c.getD i 0) from rfl, push]
    split
    · have : ¬ j = i := by omega
      simp [this]
    · exact Iff.rfl
/-- Initiators and their PDIs. -/
theorem dp_pair {c : List Int} {i : Nat} (h : st (c.getD i 0) = true) (hn : partner c i < c.length) : dp c (partner c i) = dp c i := by
  obtain ⟨h1, h2, h3⟩ := partner_pdi h hn
  unfold dp
  rw [if_pos h1, if_neg (st_23 h), h2]
  rfl
theorem mt_pair {c : List Int} {i : Nat} (h : st (c.getD i 0) = true) (hn : partner c i < c.length) : mt c (partner c i) = (i : Int) := by
  obtain ⟨h1, h2, h3⟩ := partner_pdi h hn
  unfold mt
  rw [h1, if_neg (by decide), if_pos rfl, h2]
  rfl
theorem dp_inside {c : List Int} {i j : Nat} (h : st (c.getD i 0) = true) (h1 : i < j) (h2 : j < partner c i) (hj : j < c.length) : dp c i < dp c j := by
  obtain ⟨l, h3, h4⟩ := stk_mid h h1 (by omega)
  have hi : dp c i = (stk c i).length := by unfold dp; rw [if_neg (st_23 h)]
  rw [hi]
  unfold dp
  rw [h3]
  split
  · rename_i hx
    cases l with
    | nil =>
      rw [drop_at c j hj, ptl_cons, hx, if_neg (by decide), if_pos rfl, if_pos (by rfl)] at h4
      omega
    | cons y l => simp; omega
  · simp; omega
theorem mt_pdi {c : List Int} {k : Nat} (hk : k < c.length) (hx : c.getD k 0 = 23) : (mt c k = -1 ∧ dp c k = 0) ∨ ∃ i : Nat, mt c k = (i : Int) ∧ i < k ∧ st (c.getD i 0) = true ∧ mt c i = (k : Int) := by
  have hm : mt c k = hd (stk c k) := by unfold mt; rw [hx, if_neg (by decide), if_pos rfl]
  cases hs : stk c k with
  | nil => exact .inl ⟨by rw [hm, hs]; rfl, by unfold dp; rw [hs]; simp⟩
  | cons i s =>
    obtain ⟨h1, h2⟩ := (head_iff hk hx i).1 ⟨s, hs⟩
    refine .inr ⟨i, by rw [hm, hs]; rfl, (stk_lt c k i (by rw [hs]; simp)).1, h1, ?_⟩
    unfold mt
    rw [if_pos h1, h2]
end Go.Proofs.YtmdmehopefgndaaGreatDoor.Iso
