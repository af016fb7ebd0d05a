/- Places by the least level between them; stretches turned about: plain mathematics. -/
import Derived.Test.YtmcbldllbnjipaaLists
namespace Go.Proofs.Ytmcbldllbnjipaa
set_option linter.unusedVariables false
namespace Od
/-- Stretches of what p holds of are turned about. -/
def fl (p : Nat → Bool) : List Nat → List Nat → List Nat
  | acc, [] => acc
  | acc, x :: r => if p x then fl p (x :: acc) r else acc ++ x :: fl p [] r
theorem fl_perm (p : Nat → Bool) : ∀ (r acc : List Nat), (fl p acc r).Perm (acc ++ r)
  | [], acc => by rw [fl, List.append_nil]
  | x :: r, acc => by
    rw [fl]
    split
    · refine (fl_perm p r (x :: acc)).trans ?_
      rw [List.cons_append]
      exact List.perm_middle.symm
    · exact List.Perm.append_left acc (List.Perm.cons x (by simpa using fl_perm p r []))
theorem mem_fl {p : Nat → Bool} {r acc : List Nat} {z : Nat} : z ∈ fl p acc r ↔ z ∈ acc ∨ z ∈ r := by
  rw [(fl_perm p r acc).mem_iff, List.mem_append]
/-- What is known of two places of a list, one behind the other. -/
def OKs (p : Nat → Bool) (S : Nat → Nat → Prop) (Q : List Nat) : Prop :=
  ∀ l1 x m y l2, Q = l1 ++ x :: (m ++ y :: l2) → ((p x = true ∧ p y = true ∧ ∀ z ∈ m, p z = true) → S y x) ∧ (¬ (p x = true ∧ p y = true ∧ ∀ z ∈ m, p z = true) → S x y)
theorem OKs.tail {p : Nat → Bool} {S : Nat → Nat → Prop} {l Q : List Nat} (h : OKs p S (l ++ Q)) : OKs p S Q := by
  intro l1 x m y l2 e
  exact h (l ++ l1) x m y l2 (by rw [e, List.append_assoc])
theorem OKs.head {p : Nat → Bool} {S : Nat → Nat → Prop} {l Q : List Nat} (h : OKs p S (Q ++ l)) : OKs p S Q := by
  intro l1 x m y l2 e
  exact h l1 x m y (l2 ++ l) (by rw [e]; simp)
theorem acc_sorted {p : Nat → Bool} {S : Nat → Nat → Prop} : ∀ (acc : List Nat), (∀ x ∈ acc, p x = true) → OKs p S acc.reverse → acc.Pairwise S
  | [], _, _ => List.Pairwise.nil
  | x :: acc, hp, h => by
    rw [List.reverse_cons] at h
    refine List.pairwise_cons.2 ⟨fun y hy => ?_, acc_sorted acc (fun z hz => hp z (List.mem_cons_of_mem _ hz)) h.head⟩
    obtain ⟨l1, l2, e⟩ := List.append_of_mem (List.mem_reverse.2 hy)
    refine (h l1 y l2 x [] (by rw [e]; simp)).1 ⟨hp y (List.mem_cons_of_mem _ hy), hp x List.mem_cons_self, fun z hz => hp z (List.mem_cons_of_mem _ (List.mem_reverse.1 (by rw [e]; simp [hz])))⟩
theorem fl_sorted {p : Nat → Bool} {S : Nat → Nat → Prop} : ∀ (r acc : List Nat), (∀ x ∈ acc, p x = true) → OKs p S (acc.reverse ++ r) → (fl p acc r).Pairwise S
  | [], acc, hp, h => by
    rw [fl]
    exact acc_sorted acc hp (by simpa using h)
  | x :: r, acc, hp, h => by
    rw [fl]
    by_cases hx : p x = true
    · rw [if_pos hx]
      refine fl_sorted r (x :: acc) (fun z hz => ?_) (by rw [List.reverse_cons, List.append_assoc]; exact h)
      rcases List.mem_cons.1 hz with rfl | hz
      · exact hx
      · exact hp z hz
    · rw [if_neg hx]
      have hr : OKs p S r := OKs.tail (l := acc.reverse ++ [x]) (by rw [List.append_assoc]; exact h)
      refine List.pairwise_append.2 ⟨acc_sorted acc hp h.head, List.pairwise_cons.2 ⟨fun y hy => ?_, fl_sorted r [] (by simp) (by simpa using hr)⟩, fun u hu v hv => ?_⟩
      · have hy2 : y ∈ r := (mem_fl.1 hy).resolve_left (by simp)
        obtain ⟨m, l2, e⟩ := List.append_of_mem hy2
        exact (h acc.reverse x m y l2 (by rw [e])).2 (fun q => hx q.1)
      · obtain ⟨l1, l2, e⟩ := List.append_of_mem (List.mem_reverse.2 hu)
        rcases List.mem_cons.1 hv with rfl | hv
        · exact (h l1 u l2 v r (by rw [e]; simp)).2 (fun q => hx q.2.1)
        · have hv2 : v ∈ r := (mem_fl.1 hv).resolve_left (by simp)
          obtain ⟨m, l3, e3⟩ := List.append_of_mem hv2
          exact (h l1 u (l2 ++ x :: m) v l3 (by rw [e, e3]; simp)).2 (fun q => hx (q.2.2 x (by simp)))
section
variable (lv : List Int)
def at' (i : Nat) : Int := lv.getD i 0
/-- A place that is seen. -/
def sn (i : Nat) : Bool := decide (i < lv.length ∧ 0 ≤ lv.getD i 0)
/-- The least level from i on, d places onward (i is seen). -/
def ls (i : Nat) : Nat → Int
  | 0 => lv.getD i 0
  | d + 1 => if 0 ≤ lv.getD (i + (d + 1)) 0 ∧ lv.getD (i + (d + 1)) 0 < ls i d then lv.getD (i + (d + 1)) 0 else ls i d
/-- The least level between two places. -/
def le (x y : Nat) : Int := if x ≤ y then ls lv x (y - x) else ls lv y (x - y)
end
variable {lv : List Int}
theorem ls_le (i : Nat) : ∀ d z, i ≤ z → z ≤ i + d → 0 ≤ lv.getD z 0 ∨ z = i → ls lv i d ≤ lv.getD z 0 := by
  intro d
  induction d with
  | zero =>
    intro z h1 h2 _
    obtain rfl : z = i := by omega
    exact Int.le_refl _
  | succ d ih =>
    intro z h1 h2 h3
    rw [ls]
    by_cases hz : z = i + (d + 1)
    · subst hz
      split
      · exact Int.le_refl _
      · rename_i hn
        rcases h3 with h3 | h3
        · omega
        · omega
    · have := ih z h1 (by omega) h3
      split
      · omega
      · exact this
theorem ls_ge {i : Nat} {k : Int} : ∀ d, (∀ z, i ≤ z → z ≤ i + d → (0 ≤ lv.getD z 0 ∨ z = i) → k ≤ lv.getD z 0) → k ≤ ls lv i d := by
  intro d
  induction d with
  | zero => intro h; exact h i (Nat.le_refl _) (Nat.le_refl _) (.inr rfl)
  | succ d ih =>
    intro h
    rw [ls]
    split
    · rename_i hc
      exact h _ (by omega) (by omega) (.inl hc.1)
    · exact ih fun z h1 h2 h3 => h z h1 (by omega) h3
theorem le_comm (x y : Nat) : le lv x y = le lv y x := by
  unfold le
  by_cases h : x ≤ y
  · by_cases h2 : y ≤ x
    · obtain rfl : x = y := by omega
      rfl
    · rw [if_pos h, if_neg h2]
  · rw [if_neg h, if_pos (by omega)]
/-- It is at most the level of what is seen between. -/
theorem le_le {x y z : Nat} (hx : 0 ≤ lv.getD x 0) (hy : 0 ≤ lv.getD y 0) (hz : 0 ≤ lv.getD z 0) (h : (x ≤ z ∧ z ≤ y) ∨ (y ≤ z ∧ z ≤ x)) : le lv x y ≤ lv.getD z 0 := by
  unfold le
  split
  · exact ls_le x _ z (by omega) (by omega) (.inl hz)
  · exact ls_le y _ z (by omega) (by omega) (.inl hz)
/-- A level that all between have, it has. -/
theorem le_ge {x y : Nat} {k : Int} (hx : 0 ≤ lv.getD x 0) (hy : 0 ≤ lv.getD y 0) (h : ∀ z, ((x ≤ z ∧ z ≤ y) ∨ (y ≤ z ∧ z ≤ x)) → 0 ≤ lv.getD z 0 → k ≤ lv.getD z 0) : k ≤ le lv x y := by
  unfold le
  split
  · refine ls_ge _ fun z h1 h2 h3 => h z (by omega) ?_
    rcases h3 with h3 | rfl
    · exact h3
    · exact hx
  · refine ls_ge _ fun z h1 h2 h3 => h z (by omega) ?_
    rcases h3 with h3 | rfl
    · exact h3
    · exact hy
/-- Further left, where the stretches of all levels above k have been turned about. -/
def Bf (lv : List Int) (k : Int) (x y : Nat) : Prop := if (le lv x y - k).toNat % 2 = 0 then x < y else y < x
theorem Bf_low {k : Int} {x y : Nat} (h : le lv x y ≤ k) : Bf lv k x y ↔ x < y := by
  unfold Bf
  rw [show (le lv x y - k).toNat = 0 by omega]
  simp
theorem Bf_turn {k : Int} {x y : Nat} (h : k ≤ le lv x y) : Bf lv (k - 1) x y ↔ Bf lv k y x := by
  unfold Bf
  rw [le_comm y x]
  have e : (le lv x y - (k - 1)).toNat = (le lv x y - k).toNat + 1 := by omega
  rw [e]
  generalize (le lv x y - k).toNat = c
  by_cases h0 : c % 2 = 0
  · rw [if_pos h0, if_neg (show ¬ (c + 1) % 2 = 0 by omega)]
  · rw [if_neg h0, if_pos (show (c + 1) % 2 = 0 by omega)]
theorem Bf_asymm {k : Int} {x y : Nat} (h : Bf lv k x y) : ¬ Bf lv k y x := by
  unfold Bf at *
  rw [le_comm y x]
  split at h
  · rename_i h0; rw [if_pos h0]; omega
  · rename_i h0; rw [if_neg h0]; omega
/-- A list of all places that are seen, one behind the other by Bf k. -/
structure By (lv : List Int) (k : Int) (P : List Nat) : Prop where
  pw : P.Pairwise (Bf lv k)
  mem : ∀ z, z ∈ P ↔ sn lv z = true
theorem sn_at {z : Nat} (h : sn lv z = true) : z < lv.length ∧ 0 ≤ lv.getD z 0 := of_decide_eq_true h
theorem sn_of {z : Nat} (h : 0 ≤ lv.getD z 0) (hl : z < lv.length) : sn lv z = true := decide_eq_true ⟨hl, h⟩
theorem By.oks {k : Int} {P : List Nat} (h : By lv k P) : OKs (fun x => decide (k ≤ lv.getD x 0)) (Bf lv (k - 1)) P := by
  intro l1 x m y l2 e
  have hmx := sn_at ((h.mem x).1 (by rw [e]; simp))
  have hmy := sn_at ((h.mem y).1 (by rw [e]; simp))
  have hpw := h.pw
  rw [e] at hpw
  obtain ⟨_, hx2, h1⟩ := List.pairwise_append.1 hpw
  obtain ⟨hx3, hm2⟩ := List.pairwise_cons.1 hx2
  obtain ⟨_, hy2, h2⟩ := List.pairwise_append.1 hm2
  obtain ⟨hy3, _⟩ := List.pairwise_cons.1 hy2
  have hxy : Bf lv k x y := hx3 y (by simp)
  have key : (decide (k ≤ lv.getD x 0) = true ∧ decide (k ≤ lv.getD y 0) = true ∧ ∀ z ∈ m, decide (k ≤ lv.getD z 0) = true) ↔ k ≤ le lv x y := by
    constructor
    · rintro ⟨px, py, pm⟩
      simp only [decide_eq_true_eq] at px py pm
      refine le_ge hmx.2 hmy.2 fun w hw hw0 => ?_
      by_cases hk : k ≤ lv.getD w 0
      · exact hk
      exfalso
      have hwl : w < lv.length := by omega
      have hwP : w ∈ P := (h.mem w).2 (sn_of hw0 hwl)
      have hwx : le lv w x ≤ k := by have := le_le (x := w) (y := x) (z := w) hw0 hmx.2 hw0 (by omega); omega
      have hwy : le lv w y ≤ k := by have := le_le (x := w) (y := y) (z := w) hw0 hmy.2 hw0 (by omega); omega
      have hne1 : ¬ w = x := by rintro rfl; omega
      have hne2 : ¬ w = y := by rintro rfl; omega
      rw [e] at hwP
      rcases List.mem_append.1 hwP with hw1 | hw1
      · have q1 := (Bf_low hwx).1 (h1 w hw1 x (by simp))
        have q2 := (Bf_low hwy).1 (h1 w hw1 y (by simp))
        omega
      · rcases List.mem_cons.1 hw1 with hw1 | hw1
        · exact hne1 hw1
        · rcases List.mem_append.1 hw1 with hw1 | hw1
          · exact hk (pm w hw1)
          · rcases List.mem_cons.1 hw1 with hw1 | hw1
            · exact hne2 hw1
            · have q1 := (Bf_low (by rw [le_comm]; exact hwx)).1 (hx3 w (by simp [hw1]))
              have q2 := (Bf_low (by rw [le_comm]; exact hwy)).1 (hy3 w hw1)
              omega
    · intro hk
      have px : k ≤ lv.getD x 0 := by have := le_le (x := x) (y := y) (z := x) hmx.2 hmy.2 hmx.2 (by omega); omega
      have py : k ≤ lv.getD y 0 := by have := le_le (x := x) (y := y) (z := y) hmx.2 hmy.2 hmy.2 (by omega); omega
      refine ⟨decide_eq_true px, decide_eq_true py, fun z hz => ?_⟩
      by_cases hzk : k ≤ lv.getD z 0
      · exact decide_eq_true hzk
      exfalso
      have hmz := sn_at ((h.mem z).1 (by rw [e]; simp [hz]))
      have hxz : le lv x z ≤ k := by have := le_le (x := x) (y := z) (z := z) hmx.2 hmz.2 hmz.2 (by omega); omega
      have hzy : le lv z y ≤ k := by have := le_le (x := z) (y := y) (z := z) hmz.2 hmy.2 hmz.2 (by omega); omega
      have q1 := (Bf_low hxz).1 (hx3 z (by simp [hz]))
      have q2 := (Bf_low hzy).1 (h2 z hz y (by simp))
      have := le_le (x := x) (y := y) (z := z) hmx.2 hmy.2 hmz.2 (by omega)
      omega
  rw [key]
  refine ⟨fun hk => ?_, fun hk => ?_⟩
  · rw [Bf_turn (by rw [le_comm]; exact hk)]
    exact hxy
  · rw [Bf_low (by omega)]
    exact (Bf_low (by omega)).1 hxy
/-- A turn. -/
def turn (lv : List Int) (k : Int) (P : List Nat) : List Nat := fl (fun x => decide (k ≤ lv.getD x 0)) [] P
theorem By.turn {k : Int} {P : List Nat} (h : By lv k P) : By lv (k - 1) (turn lv k P) :=
  ⟨fl_sorted P [] (by simp) (by simpa using h.oks), fun z => by unfold Od.turn; rw [mem_fl, ← h.mem]; simp⟩
/-- All that are seen. -/
def K (lv : List Int) : List Nat := (List.range lv.length).filter (sn lv)
theorem K_by {k : Int} (hk : ∀ i, i < lv.length → lv.getD i 0 ≤ k) : By lv k (K lv) := by
  refine ⟨?_, fun z => ?_⟩
  · have h1 : (List.range lv.length).Pairwise (· < ·) := List.pairwise_lt_range
    have h2 : (K lv).Pairwise (· < ·) := h1.filter _
    refine h2.imp_of_mem ?_
    intro x y hx hy hxy
    have mx := sn_at (List.mem_filter.1 hx).2
    have my := sn_at (List.mem_filter.1 hy).2
    rw [Bf_low]
    · exact hxy
    · have := le_le (x := x) (y := y) (z := x) mx.2 my.2 mx.2 (by omega)
      have := hk x mx.1
      omega
  · unfold K
    rw [List.mem_filter, List.mem_range]
    exact ⟨fun h => h.2, fun h => ⟨(sn_at h).1, h⟩⟩
/-- From a level down: m turns. -/
def down (lv : List Int) (k : Int) : Nat → List Nat
  | 0 => K lv
  | m + 1 => turn lv (k - (m : Int)) (down lv k m)
theorem down_by {k : Int} (hk : ∀ i, i < lv.length → lv.getD i 0 ≤ k) : ∀ m : Nat, By lv (k - (m : Int)) (down lv k m)
  | 0 => by simpa [down] using K_by hk
  | m + 1 => by
    have := (down_by hk m).turn
    rw [show k - (m : Int) - 1 = k - ((m + 1 : Nat) : Int) by omega] at this
    exact this
theorem down_perm (k : Int) : ∀ m : Nat, (down lv k m).Perm (K lv)
  | 0 => List.Perm.refl _
  | m + 1 => (fl_perm _ _ _).trans (by simpa using down_perm k m)
/-- The document's left. -/
def Lf (lv : List Int) (x y : Nat) : Prop := if le lv x y % 2 = 0 then x < y else y < x
theorem Lf_asymm {x y : Nat} (h : Lf lv x y) : ¬ Lf lv y x := by
  unfold Lf at *
  rw [le_comm y x]
  split at h
  · rename_i h0; rw [if_pos h0]; omega
  · rename_i h0; rw [if_neg h0]; omega
/-- Turned down to an odd level below which there is none. -/
theorem Bf_Lf {k : Int} {x y : Nat} (hk : k % 2 = 0) (h0 : 0 ≤ le lv x y) (h : le lv x y ≤ k → le lv x y % 2 = 0) : Bf lv k x y ↔ Lf lv x y := by
  unfold Bf Lf
  by_cases hle : le lv x y ≤ k
  · rw [show (le lv x y - k).toNat = 0 by omega, if_pos (h hle)]
    simp
  · have e : ((le lv x y - k).toNat % 2 = 0) ↔ le lv x y % 2 = 0 := by omega
    by_cases hp : le lv x y % 2 = 0
    · rw [if_pos hp, if_pos (e.2 hp)]
    · rw [if_neg hp, if_neg (fun q => hp (e.1 q))]
/-- It is some seen place's level. -/
theorem ls_is (i : Nat) (hi : 0 ≤ lv.getD i 0) : ∀ d, ∃ z, i ≤ z ∧ z ≤ i + d ∧ 0 ≤ lv.getD z 0 ∧ ls lv i d = lv.getD z 0
  | 0 => ⟨i, Nat.le_refl _, Nat.le_refl _, hi, rfl⟩
  | d + 1 => by
    rw [ls]
    split
    · rename_i hc
      exact ⟨_, by omega, by omega, hc.1, rfl⟩
    · obtain ⟨z, h1, h2, h3, h4⟩ := ls_is i hi d
      exact ⟨z, h1, by omega, h3, h4⟩
theorem le_is {x y : Nat} (hx : 0 ≤ lv.getD x 0) (hy : 0 ≤ lv.getD y 0) : ∃ z, ((x ≤ z ∧ z ≤ y) ∨ (y ≤ z ∧ z ≤ x)) ∧ 0 ≤ lv.getD z 0 ∧ le lv x y = lv.getD z 0 := by
  unfold le
  split
  · obtain ⟨z, h1, h2, h3, h4⟩ := ls_is x hx (y - x)
    exact ⟨z, by omega, h3, h4⟩
  · obtain ⟨z, h1, h2, h3, h4⟩ := ls_is y hy (x - y)
    exact ⟨z, by omega, h3, h4⟩
end Od
end Go.Proofs.Ytmcbldllbnjipaa
