/- The levels of a line: plain mathematics. -/
import Derived.Test.YtanoifkegfalgaaOc
namespace Go.Proofs.Ytanoifkegfalgaa
set_option linter.unusedVariables false
namespace Od
/-- S and B. -/
def sep (x : Int) : Bool := x == 12 || x == 11
/-- WS, LRI, RLI, FSI and PDI. -/
def loose (x : Int) : Bool := x == 13 || (decide (20 ≤ x) && decide (x ≤ 23))
theorem sep_iff {x : Int} : sep x = true ↔ x = 12 ∨ x = 11 := by simp [sep]
theorem loose_iff {x : Int} : loose x = true ↔ x = 13 ∨ (20 ≤ x ∧ x ≤ 23) := by simp [loose]
theorem loose_sep {x : Int} (h : loose x = true) : sep x = false := by
  rw [loose_iff] at h
  rw [← Bool.not_eq_true, sep_iff]
  omega
/-- Is what stands at i, d places ahead of the line's end, of a stretch ahead of S, of B or of the end? -/
def rs (c lv : List Int) : Nat → Nat → Bool
  | _, 0 => true
  | i, d + 1 => if sep (c.getD i 0) = true then true else if 0 ≤ lv.getD i 0 ∧ loose (c.getD i 0) = false then false else rs c lv (i + 1) d
section
variable {c lv : List Int} {base : Int}
theorem rs_end (i : Nat) : rs c lv i 0 = true := by rw [rs]
theorem rs_sep {i d : Nat} (h : sep (c.getD i 0) = true) : rs c lv i (d + 1) = true := by rw [rs, if_pos h]
theorem rs_stop {i d : Nat} (h : sep (c.getD i 0) = false) (h1 : 0 ≤ lv.getD i 0) (h2 : loose (c.getD i 0) = false) : rs c lv i (d + 1) = false := by
  rw [rs, if_neg (fun q => Bool.false_ne_true (h.symm.trans q)), if_pos ⟨h1, h2⟩]
theorem rs_on {i d : Nat} (h : sep (c.getD i 0) = false) (h1 : ¬ (0 ≤ lv.getD i 0 ∧ loose (c.getD i 0) = false)) : rs c lv i (d + 1) = rs c lv (i + 1) d := by
  rw [rs, if_neg (fun q => Bool.false_ne_true (h.symm.trans q)), if_neg h1]
/-- A place's level in the line. -/
def li (c lv : List Int) (base : Int) (i d : Nat) : Int := if 0 ≤ lv.getD i 0 ∧ rs c lv i d = true then base else lv.getD i 0
/-- The line. -/
def LI (c lv : List Int) (base : Int) (fr to : Nat) : List Int := (List.range (to - fr)).map fun k => li c lv base (fr + k) (to - (fr + k))
theorem LI_len (fr to : Nat) : (LI c lv base fr to).length = to - fr := by simp [LI]
theorem LI_at {fr to k : Nat} (h : k < to - fr) : (LI c lv base fr to).getD k 0 = li c lv base (fr + k) (to - (fr + k)) := by simp [LI, List.getD, h]
theorem LI_upto {fr k to : Nat} (h : k < to - fr) : (LI c lv base fr to).take (k + 1) = (LI c lv base fr to).take k ++ [li c lv base (fr + k) (to - (fr + k))] := by
  have hk : k < (LI c lv base fr to).length := by rw [LI_len]; exact h
  rw [List.take_add_one, List.getElem?_eq_getElem hk]
  simp [LI]
theorem LI_from {fr to : Nat} (h : fr < to) : LI c lv base fr to = li c lv base fr (to - fr) :: LI c lv base (fr + 1) to := by
  unfold LI
  rw [show to - fr = (to - (fr + 1)) + 1 by omega, List.range_succ_eq_map, List.map_cons, List.map_map]
  congr 1
  · rw [Nat.add_zero, show to - fr = (to - (fr + 1)) + 1 by omega]
  · refine List.map_congr_left fun k _ => ?_
    simp only [Function.comp, Nat.succ_eq_add_one]
    rw [show fr + (k + 1) = fr + 1 + k by omega]
theorem cut_or (i d : Nat) : li c lv base i d = lv.getD i 0 ∨ (li c lv base i d = base ∧ 0 ≤ lv.getD i 0) := by
  unfold li
  split
  · rename_i h; exact .inr ⟨rfl, h.1⟩
  · exact .inl rfl
theorem cut_keeps {i d : Nat} (h : sep (c.getD i 0) = false) (h2 : loose (c.getD i 0) = false) : li c lv base i (d + 1) = lv.getD i 0 := by
  unfold li
  by_cases h1 : 0 ≤ lv.getD i 0
  · rw [rs_stop h h1 h2, if_neg (by simp)]
  · rw [if_neg (fun q => h1 q.1)]
theorem cut_sep {i d : Nat} (h : sep (c.getD i 0) = true) (h1 : 0 ≤ lv.getD i 0) : li c lv base i (d + 1) = base := by
  unfold li
  rw [if_pos ⟨h1, rs_sep h⟩]
theorem cut_last {i : Nat} (h : loose (c.getD i 0) = true) (h1 : 0 ≤ lv.getD i 0) : li c lv base i 1 = base := by
  unfold li
  rw [if_pos]
  refine ⟨h1, ?_⟩
  rw [rs_on (loose_sep h) (fun q => Bool.false_ne_true (q.2.symm.trans h)), rs_end]
theorem li_unseen {i d : Nat} (h : ¬ 0 ≤ lv.getD i 0) : li c lv base i d = lv.getD i 0 := by
  unfold li
  rw [if_neg (fun q => h q.1)]
/-- The stretch ends at a place: what is to be said of it by its bounds. -/
theorem rs_true {i : Nat} : ∀ d, rs c lv i d = true ↔ ∃ k, k ≤ d ∧ (k = d ∨ sep (c.getD (i + k) 0) = true) ∧ ∀ m, m < k → sep (c.getD (i + m) 0) = true ∨ ¬ (0 ≤ lv.getD (i + m) 0 ∧ loose (c.getD (i + m) 0) = false) := by
  intro d
  induction d generalizing i with
  | zero => exact ⟨fun _ => ⟨0, Nat.le_refl _, .inl rfl, fun m hm => absurd hm (by omega)⟩, fun _ => rs_end i⟩
  | succ d ih =>
    rw [rs]
    split
    · rename_i h
      exact ⟨fun _ => ⟨0, by omega, .inr h, fun m hm => absurd hm (by omega)⟩, fun _ => rfl⟩
    · rename_i h
      split
      · rename_i h2
        refine ⟨fun q => absurd q (by simp), ?_⟩
        rintro ⟨k, h3, h4, h5⟩
        rcases Nat.eq_zero_or_pos k with rfl | hk
        · rcases h4 with h4 | h4
          · omega
          · exact absurd h4 h
        · rcases h5 0 hk with h6 | h6
          · exact absurd h6 h
          · exact absurd h2 h6
      · rename_i h2
        rw [ih]
        constructor
        · rintro ⟨k, h3, h4, h5⟩
          refine ⟨k + 1, by omega, ?_, fun m hm => ?_⟩
          · rw [show i + (k + 1) = i + 1 + k by omega]
            rcases h4 with h4 | h4
            · exact .inl (by omega)
            · exact .inr h4
          · cases m with
            | zero => exact .inr h2
            | succ m =>
              rw [show i + (m + 1) = i + 1 + m by omega]
              exact h5 m (by omega)
        · rintro ⟨k, h3, h4, h5⟩
          cases k with
          | zero =>
            rcases h4 with h4 | h4
            · omega
            · exact absurd h4 h
          | succ k =>
            refine ⟨k, by omega, ?_, fun m hm => ?_⟩
            · rw [show i + 1 + k = i + (k + 1) by omega]
              rcases h4 with h4 | h4
              · exact .inl (by omega)
              · exact .inr h4
            · rw [show i + 1 + m = i + (m + 1) by omega]
              exact h5 (m + 1) (by omega)
end
end Od
end Go.Proofs.Ytanoifkegfalgaa
