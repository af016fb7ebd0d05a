/- The places of columns: plain mathematics. -/
import Derived.Test.YtmcbldllbnjipaaPn16
import Derived.Test.YtmcbldllbnjipaaOo
namespace Go.Proofs.Ytmcbldllbnjipaa
set_option linter.unusedVariables false
namespace Pk
/-- Where the run ahead of run k ends. -/
def enz (Z : List (Int × Int)) : Nat → Int
  | 0 => 0
  | k + 1 => (Z.getD k (0, 0)).2
/-- The first k runs are runs of m columns, one behind the other. -/
def AR (Z : List (Int × Int)) (m : Int) (k : Nat) : Prop := ∀ i, i < k → enz Z i ≤ (Z.getD i (0, 0)).1 ∧ (Z.getD i (0, 0)).1 < (Z.getD i (0, 0)).2 ∧ (Z.getD i (0, 0)).2 ≤ m
theorem AR_zero (Z : List (Int × Int)) (m : Int) : AR Z m 0 := fun i h => absurd h (by omega)
theorem AR_succ {Z : List (Int × Int)} {m : Int} {k : Nat} (h : AR Z m k) (h1 : enz Z k ≤ (Z.getD k (0, 0)).1) (h2 : (Z.getD k (0, 0)).1 < (Z.getD k (0, 0)).2) (h3 : (Z.getD k (0, 0)).2 ≤ m) : AR Z m (k + 1) := fun i hi => by
  by_cases e : i = k
  · subst e; exact ⟨h1, h2, h3⟩
  · exact h i (by omega)
theorem AR_less {Z : List (Int × Int)} {m : Int} {k j : Nat} (h : AR Z m k) (hj : j ≤ k) : AR Z m j := fun i hi => h i (by omega)
theorem enz_pos {Z : List (Int × Int)} {m : Int} : ∀ k, AR Z m k → 0 ≤ enz Z k
  | 0, _ => Int.le_refl _
  | k + 1, h => by
    have h0 := enz_pos k (AR_less h (by omega))
    have h1 := h k (by omega)
    show 0 ≤ (Z.getD k (0, 0)).2
    omega
theorem enz_le {Z : List (Int × Int)} {m : Int} (hm : 0 ≤ m) : ∀ k, AR Z m k → enz Z k ≤ m
  | 0, _ => hm
  | k + 1, h => (h k (by omega)).2.2
/-- Does a column lie in one of the first k runs? -/
def hz (Z : List (Int × Int)) (k : Nat) (j : Int) : Bool := (List.range k).any fun i => decide ((Z.getD i (0, 0)).1 ≤ j ∧ j < (Z.getD i (0, 0)).2)
theorem hz_iff {Z : List (Int × Int)} {k : Nat} {j : Int} : hz Z k j = true ↔ ∃ i, i < k ∧ (Z.getD i (0, 0)).1 ≤ j ∧ j < (Z.getD i (0, 0)).2 := by
  unfold hz
  rw [List.any_eq_true]
  constructor
  · rintro ⟨i, h1, h2⟩
    exact ⟨i, List.mem_range.1 h1, of_decide_eq_true h2⟩
  · rintro ⟨i, h1, h2⟩
    exact ⟨i, List.mem_range.2 h1, decide_eq_true h2⟩
/-- What stands in the first k runs, run by run. -/
def pz (L : List Int) (Z : List (Int × Int)) : Nat → List Int
  | 0 => []
  | k + 1 => pz L Z k ++ (L.take (Z.getD k (0, 0)).2.toNat).drop (Z.getD k (0, 0)).1.toNat
theorem pz_sub {L : List Int} {Z : List (Int × Int)} {m : Int} : ∀ k, AR Z m k → (pz L Z k).Sublist (L.take (enz Z k).toNat)
  | 0, _ => List.nil_sublist _
  | k + 1, h => by
    have h0 := pz_sub (L := L) k (AR_less h (by omega))
    have h1 := h k (by omega)
    have h2 := enz_pos k (AR_less h (by omega))
    obtain ⟨a, ha⟩ : ∃ a : Nat, (Z.getD k (0, 0)).1 = (a : Int) := ⟨(Z.getD k (0, 0)).1.toNat, by omega⟩
    obtain ⟨b, hb⟩ : ∃ b : Nat, (Z.getD k (0, 0)).2 = (b : Int) := ⟨(Z.getD k (0, 0)).2.toNat, by omega⟩
    obtain ⟨e, he⟩ : ∃ e : Nat, enz Z k = (e : Int) := ⟨(enz Z k).toNat, by omega⟩
    rw [ha, hb, he] at h1
    rw [he] at h0
    show (pz L Z k ++ (L.take (Z.getD k (0, 0)).2.toNat).drop (Z.getD k (0, 0)).1.toNat).Sublist (L.take (Z.getD k (0, 0)).2.toNat)
    rw [ha, hb]
    simp only [Int.toNat_natCast] at h0 ⊢
    have e1 : L.take b = L.take e ++ (L.take b).drop e := by
      have : L.take e = (L.take b).take e := by rw [List.take_take, Nat.min_eq_left (by omega)]
      rw [this, List.take_append_drop]
    have e2 : ((L.take b).drop a).Sublist ((L.take b).drop e) := by
      have : (L.take b).drop a = ((L.take b).drop e).drop (a - e) := by rw [List.drop_drop]; congr 1; omega
      rw [this]
      exact List.drop_sublist _ _
    rw [e1]
    have e3 : ((L.take e ++ (L.take b).drop e).drop a) = (L.take b).drop a := by rw [← e1]
    rw [e3]
    exact List.Sublist.append h0 e2
theorem pz_len {L : List Int} {Z : List (Int × Int)} {m : Int} {k : Nat} (h : AR Z m k) : (pz L Z k).length ≤ L.length := by
  have := (pz_sub (L := L) k h).length_le
  rw [List.length_take] at this
  omega
theorem pz_mem {L : List Int} {Z : List (Int × Int)} : ∀ k, AR Z (L.length : Int) k → ∀ x, x ∈ pz L Z k ↔ ∃ j : Nat, j < L.length ∧ hz Z k (j : Int) = true ∧ L.getD j 0 = x
  | 0, _, x => by
    constructor
    · intro h; simp [pz] at h
    · rintro ⟨j, _, h, _⟩; simp [hz] at h
  | k + 1, h, x => by
    have ih := pz_mem k (AR_less h (by omega)) x
    have h1 := h k (by omega)
    have h2 := enz_pos k (AR_less h (by omega))
    obtain ⟨a, ha⟩ : ∃ a : Nat, (Z.getD k (0, 0)).1 = (a : Int) := ⟨(Z.getD k (0, 0)).1.toNat, by omega⟩
    obtain ⟨b, hb⟩ : ∃ b : Nat, (Z.getD k (0, 0)).2 = (b : Int) := ⟨(Z.getD k (0, 0)).2.toNat, by omega⟩
    have hstep : ∀ j : Nat, hz Z (k + 1) (j : Int) = true ↔ hz Z k (j : Int) = true ∨ (a ≤ j ∧ j < b) := by
      intro j
      rw [hz_iff, hz_iff]
      constructor
      · rintro ⟨i, g1, g2, g3⟩
        by_cases e : i = k
        · subst e
          rw [ha] at g2; rw [hb] at g3
          exact .inr (by omega)
        · exact .inl ⟨i, by omega, g2, g3⟩
      · rintro (⟨i, g1, g2, g3⟩ | ⟨g1, g2⟩)
        · exact ⟨i, by omega, g2, g3⟩
        · exact ⟨k, by omega, by rw [ha]; omega, by rw [hb]; omega⟩
    rw [ha, hb] at h1
    have hbl : b ≤ L.length := by omega
    rw [pz, List.mem_append, ih, ha, hb]
    simp only [Int.toNat_natCast]
    have hp : x ∈ (L.take b).drop a ↔ ∃ j : Nat, a ≤ j ∧ j < b ∧ L.getD j 0 = x := by
      rw [List.mem_iff_getElem?]
      constructor
      · rintro ⟨i, hi⟩
        rw [List.getElem?_drop, List.getElem?_take] at hi
        split at hi
        · rename_i hlt
          exact ⟨a + i, by omega, by omega, by simp [List.getD, hi]⟩
        · cases hi
      · rintro ⟨j, g1, g2, g3⟩
        refine ⟨j - a, ?_⟩
        rw [List.getElem?_drop, List.getElem?_take, if_pos (by omega), show a + (j - a) = j from by omega]
        rw [List.getD, List.getElem?_eq_getElem (by omega)] at g3
        rw [List.getElem?_eq_getElem (by omega), ← g3]
        rfl
    rw [hp]
    constructor
    · rintro (⟨j, g1, g2, g3⟩ | ⟨j, g1, g2, g3⟩)
      · exact ⟨j, g1, (hstep j).2 (.inl g2), g3⟩
      · exact ⟨j, by omega, (hstep j).2 (.inr ⟨g1, g2⟩), g3⟩
    · rintro ⟨j, g1, g2, g3⟩
      rcases (hstep j).1 g2 with g | ⟨g, g'⟩
      · exact .inl ⟨j, g1, g, g3⟩
      · exact .inr ⟨j, g, g', g3⟩
/-- Rising lists that have the same are the same. -/
theorem rise_same : ∀ (P Q : List Int), P.Pairwise (fun x y => x < y) → Q.Pairwise (fun x y => x < y) → (∀ x, x ∈ P ↔ x ∈ Q) → P = Q
  | [], [], _, _, _ => rfl
  | [], y :: Q, _, _, h => by have := (h y).2 List.mem_cons_self; cases this
  | x :: P, [], _, _, h => by have := (h x).1 List.mem_cons_self; cases this
  | x :: P, y :: Q, hP, hQ, h => by
    obtain ⟨hP1, hP2⟩ := List.pairwise_cons.1 hP
    obtain ⟨hQ1, hQ2⟩ := List.pairwise_cons.1 hQ
    have e : x = y := by
      have h1 := (h x).1 List.mem_cons_self
      have h2 := (h y).2 List.mem_cons_self
      rcases List.mem_cons.1 h1 with h1 | h1
      · exact h1
      · rcases List.mem_cons.1 h2 with h2 | h2
        · exact h2.symm
        · have := hQ1 x h1; have := hP1 y h2; omega
    subst e
    rw [rise_same P Q hP2 hQ2 fun z => ?_]
    constructor
    · intro hz
      rcases List.mem_cons.1 ((h z).1 (List.mem_cons_of_mem _ hz)) with g | g
      · have := hP1 z hz; omega
      · exact g
    · intro hz
      rcases List.mem_cons.1 ((h z).2 (List.mem_cons_of_mem _ hz)) with g | g
      · have := hQ1 z hz; omega
      · exact g
/-- The places of which p holds. -/
def PL (p : Nat → Bool) (n : Nat) : List Int := ((List.range n).filter p).map fun (i : Nat) => (i : Int)
theorem PL_zero (p : Nat → Bool) : PL p 0 = [] := rfl
theorem PL_in {p : Nat → Bool} {n : Nat} (h : p n = true) : PL p (n + 1) = PL p n ++ [(n : Int)] := by
  unfold PL; rw [List.range_succ, List.filter_append, List.map_append]; simp [h]
theorem PL_out {p : Nat → Bool} {n : Nat} (h : ¬ p n = true) : PL p (n + 1) = PL p n := by
  unfold PL; rw [List.range_succ, List.filter_append, List.map_append]; simp [h]
theorem PL_len (p : Nat → Bool) (n : Nat) : (PL p n).length ≤ n := by
  unfold PL
  rw [List.length_map]
  have := List.length_filter_le p (List.range n)
  rwa [List.length_range] at this
theorem PL_mem {p : Nat → Bool} {n : Nat} {x : Int} : x ∈ PL p n ↔ ∃ i : Nat, i < n ∧ p i = true ∧ x = (i : Int) := by
  unfold PL
  rw [List.mem_map]
  constructor
  · rintro ⟨i, h, rfl⟩
    obtain ⟨h1, h2⟩ := List.mem_filter.1 h
    exact ⟨i, List.mem_range.1 h1, h2, rfl⟩
  · rintro ⟨i, h1, h2, rfl⟩
    exact ⟨i, List.mem_filter.2 ⟨List.mem_range.2 h1, h2⟩, rfl⟩
theorem PL_rise (p : Nat → Bool) (n : Nat) : (PL p n).Pairwise fun x y => x < y := by
  unfold PL
  rw [List.pairwise_map]
  have h : ((List.range n).filter p).Pairwise (fun x y => x < y) := List.Pairwise.filter _ List.pairwise_lt_range
  exact h.imp fun h => by omega
theorem PL_same {p r : Nat → Bool} {n : Nat} (h : ∀ i, i < n → p i = r i) : PL p n = PL r n := by
  refine rise_same _ _ (PL_rise _ _) (PL_rise _ _) fun x => ?_
  rw [PL_mem, PL_mem]
  constructor
  · rintro ⟨i, h1, h2, h3⟩; exact ⟨i, h1, by rw [← h i h1]; exact h2, h3⟩
  · rintro ⟨i, h1, h2, h3⟩; exact ⟨i, h1, by rw [h i h1]; exact h2, h3⟩
/-- A place that stands in a column of runs. -/
def pr (L : List Int) (Z : List (Int × Int)) (k i : Nat) : Bool := (List.range L.length).any fun j => decide (L.getD j 0 = (i : Int)) && hz Z k (j : Int)
theorem pr_iff {L : List Int} {Z : List (Int × Int)} {k i : Nat} : pr L Z k i = true ↔ ∃ j : Nat, j < L.length ∧ L.getD j 0 = (i : Int) ∧ hz Z k (j : Int) = true := by
  unfold pr
  rw [List.any_eq_true]
  constructor
  · rintro ⟨j, h1, h2⟩
    rw [Bool.and_eq_true] at h2
    exact ⟨j, List.mem_range.1 h1, of_decide_eq_true h2.1, h2.2⟩
  · rintro ⟨j, h1, h2, h3⟩
    exact ⟨j, List.mem_range.2 h1, by rw [Bool.and_eq_true]; exact ⟨decide_eq_true h2, h3⟩⟩
theorem orderly_nodup {L : List Int} {n : Int} (h : Od.Orderly L n L.length) : L.Nodup := by
  rw [List.nodup_iff_pairwise_ne, List.pairwise_iff_getElem]
  intro i j hi hj hij
  have := h.once i j hij hj
  simpa [List.getD, hi, hj] using this
/-- What stands in the runs, sorted: the places, rising. -/
theorem sort_pz {L : List Int} {Z : List (Int × Int)} {n k : Nat} (h : Od.Orderly L (n : Int) L.length) (hA : AR Z (L.length : Int) k) : (pz L Z k).mergeSort (fun x y => decide (x ≤ y)) = PL (pr L Z k) n := by
  have hp := List.mergeSort_perm (pz L Z k) (fun x y => decide (x ≤ y))
  have hs : ((pz L Z k).mergeSort (fun x y => decide (x ≤ y))).Pairwise (fun x y => decide (x ≤ y) = true) := List.pairwise_mergeSort (fun a b c h1 h2 => by simp at *; omega) (fun a b => by simp; omega) _
  have hnd : (pz L Z k).Nodup := ((orderly_nodup h).sublist (List.take_sublist _ _)).sublist (pz_sub k hA)
  have hnd2 : ((pz L Z k).mergeSort (fun x y => decide (x ≤ y))).Nodup := hp.nodup_iff.2 hnd
  refine rise_same _ _ ?_ (PL_rise _ _) fun x => ?_
  · have := List.Pairwise.and hs (List.nodup_iff_pairwise_ne.1 hnd2)
    exact this.imp fun ⟨h1, h2⟩ => by have h1 := of_decide_eq_true h1; omega
  · rw [hp.mem_iff, pz_mem k hA, PL_mem]
    constructor
    · rintro ⟨j, h1, h2, h3⟩
      have := h.range j h1
      rw [h3] at this
      exact ⟨x.toNat, by omega, pr_iff.2 ⟨j, h1, by rw [h3]; omega, h2⟩, by omega⟩
    · rintro ⟨i, h1, h2, h3⟩
      obtain ⟨j, g1, g2, g3⟩ := pr_iff.1 h2
      exact ⟨j, g1, g3, by rw [g2, h3]⟩
end Pk
end Go.Proofs.Ytmcbldllbnjipaa
