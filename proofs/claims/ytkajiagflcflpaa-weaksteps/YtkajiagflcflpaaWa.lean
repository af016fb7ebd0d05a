/- The small functions of weak: mayBe, markBehind, joins, has, stretch, fill. -/
import Derived.Test.YtkajiagflcflpaaInts
import Derived.Test.YtkajiagflcflpaaWm
namespace Go.Proofs.Ytkajiagflcflpaa
open Go.RowKit
set_option linter.unusedVariables false
set_option maxHeartbeats 1000000
set_option maxRecDepth 100000
/-- A row of the caller's own that is written. -/
structure OW (base g n cap : Nat) (zs : List Int) (w0 w : World) : Prop where
  own : w.ownsRow base 3 1 (.slice (some ⟨g, 0, none⟩) n cap) n (zs.map (Value.int .i64))
  bel : Below base w0 w
theorem OW.len {base g n cap : Nat} {zs : List Int} {w0 w : World} (h : OW base g n cap zs w0 w) : zs.length = n := by have := h.own.1; simpa using this
theorem OW.set {base g n cap : Nat} {zs : List Int} {w0 w : World} (h : OW base g n cap zs w0 w) (k : Nat) (y : Int) : OW base g n cap (zs.set k y) w0 (w.setCell ⟨g, k, none⟩ (.int .i64 y)) :=
  ⟨owns_set h.own k y, h.bel.setCell (p := ⟨g, k, none⟩) (h.own.lt g rfl).1 _⟩
theorem OW.drew {base g n cap : Nat} {zs : List Int} {w0 w : World} (h : OW base g n cap zs w0 w) : OW base g n cap zs w0 w.drew := ⟨h.own.drew, h.bel.drew⟩
theorem OW.drewN {base g n cap : Nat} {zs : List Int} {w0 w : World} (h : OW base g n cap zs w0 w) (k : Nat) : OW base g n cap zs w0 (w.drewN k) := by
  have hb := h.bel
  exact ⟨⟨h.own.1, h.own.2⟩, ⟨hb.os, hb.tape, hb.output, hb.size, hb.block⟩⟩
theorem OW.cell {base g n cap : Nat} {zs : List Int} {w0 w : World} (h : OW base g n cap zs w0 w) {k : Nat} (hk : k < n) : w.cell? ⟨g, k, none⟩ = some (.int .i64 (zs.getD k 0)) := owns_cell h.own k hk
theorem OW.row {base g n cap : Nat} {zs : List Int} {w0 w : World} (h : OW base g n cap zs w0 w) : Row .i64 w (some ⟨g, 0, none⟩) n cap zs := row_owned h.own
theorem may_yes {x : Int} (h : We.May x) : true = decide (We.May x) := by simp [h]
theorem may_no {x : Int} (h : ¬ We.May x) : false = decide (We.May x) := by simp [h]
theorem mayBe_any (x : Int) (w : World) : Calls Try.prog 26 #[.int .i64 x] w fun e w' => e = .returned (.bool (decide (We.May x))) ∧ w = w' := by
  obtain ⟨b, hb⟩ : ∃ b, decide (We.May x) = b := ⟨_, rfl⟩
  rw [hb]
  have HB := hide hb
  have hc : (x = 17 ∧ b = false) ∨ (¬ x = 17 ∧ x = 15 ∧ b = false) ∨ (¬ x = 17 ∧ ¬ x = 15 ∧ x = 18 ∧ b = false) ∨ (¬ x = 17 ∧ ¬ x = 15 ∧ ¬ x = 18 ∧ x = 16 ∧ b = false) ∨ (¬ x = 17 ∧ ¬ x = 15 ∧ ¬ x = 18 ∧ ¬ x = 16 ∧ x = 19 ∧ b = false) ∨ (¬ x = 17 ∧ ¬ x = 15 ∧ ¬ x = 18 ∧ ¬ x = 16 ∧ ¬ x = 19 ∧ x = 10 ∧ b = false) ∨ (¬ x = 17 ∧ ¬ x = 15 ∧ ¬ x = 18 ∧ ¬ x = 16 ∧ ¬ x = 19 ∧ ¬ x = 10 ∧ ¬ 1 ≤ x ∧ b = false) ∨ (¬ x = 17 ∧ ¬ x = 15 ∧ ¬ x = 18 ∧ ¬ x = 16 ∧ ¬ x = 19 ∧ ¬ x = 10 ∧ 1 ≤ x ∧ ¬ x ≤ 23 ∧ b = false) ∨ (¬ x = 17 ∧ ¬ x = 15 ∧ ¬ x = 18 ∧ ¬ x = 16 ∧ ¬ x = 19 ∧ ¬ x = 10 ∧ 1 ≤ x ∧ x ≤ 23 ∧ b = true) := by
    cases b with
    | false => have := of_decide_eq_false hb; unfold We.May at this; simp only [reduceCtorEq, and_false, and_true, or_false]; omega
    | true => have := of_decide_eq_true hb; unfold We.May at this; simp only [reduceCtorEq, and_false, and_true, false_or]; omega
  clear hb HB
  rcases hc with ⟨rfl, rfl⟩ | ⟨h1, rfl, rfl⟩ | ⟨h1, h2, rfl, rfl⟩ | ⟨h1, h2, h3, rfl, rfl⟩ | ⟨h1, h2, h3, h4, rfl, rfl⟩ | ⟨h1, h2, h3, h4, h5, rfl, rfl⟩ | ⟨h1, h2, h3, h4, h5, h6, h7, rfl⟩ | ⟨h1, h2, h3, h4, h5, h6, h7, h8, rfl⟩ | ⟨h1, h2, h3, h4, h5, h6, h7, h8, rfl⟩
  all_goals
    go_enter Try.func26, Try.ntmps26
    go_wp2
    go_ret
    exact ⟨rfl, rfl⟩
theorem markBehind_any (x : Int) (w : World) : Calls Try.prog 29 #[.int .i64 x] w fun e w' => e = .returned (.int .i64 (We.mk x)) ∧ w = w' := by
  have hc : (x = 20) ∨ (¬ x = 20 ∧ x = 21) ∨ (¬ x = 20 ∧ ¬ x = 21 ∧ x = 22) ∨ (¬ x = 20 ∧ ¬ x = 21 ∧ ¬ x = 22 ∧ x = 23) ∨ (¬ x = 20 ∧ ¬ x = 21 ∧ ¬ x = 22 ∧ ¬ x = 23 ∧ We.mk x = x) := by
    by_cases h : x = 20 ∨ x = 21 ∨ x = 22 ∨ x = 23
    · omega
    · have : We.mk x = x := by unfold We.mk; rw [if_neg h]
      omega
  rcases hc with rfl | ⟨h1, rfl⟩ | ⟨h1, h2, rfl⟩ | ⟨h1, h2, h3, rfl⟩ | ⟨h1, h2, h3, h4, h5⟩
  rotate_left 4
  · rw [h5]; clear h5
    go_enter Try.func29, Try.ntmps29
    go_wp2
    go_ret
    exact ⟨rfl, rfl⟩
  all_goals
    go_enter Try.func29, Try.ntmps29
    go_wp2
    go_ret
    exact ⟨rfl, rfl⟩
/-- A separator within numbers of a type. -/
def jn (k p : Int) : Bool := (p == 4 && (k == 5 || k == 8)) || (p == 7 && k == 8)
theorem joins_any (k p : Int) (w : World) : Calls Try.prog 31 #[.int .i64 k, .int .i64 p] w fun e w' => e = .returned (.bool (jn k p)) ∧ w = w' := by
  by_cases h4 : p = 4
  · subst h4
    by_cases h5 : k = 5
    · subst h5
      go_enter Try.func31, Try.ntmps31
      go_wp2
      go_ret
      exact ⟨rfl, rfl⟩
    · by_cases h8 : k = 8
      · subst h8
        go_enter Try.func31, Try.ntmps31
        go_wp2
        go_ret
        exact ⟨rfl, rfl⟩
      · have e : jn k 4 = false := by simp [jn, h5, h8]
        rw [e]
        clear e
        go_enter Try.func31, Try.ntmps31
        go_wp2
        go_ret
        exact ⟨ret_bool (by simp [h5, h8]), rfl⟩
  · by_cases h7 : p = 7
    · subst h7
      by_cases h8 : k = 8
      · subst h8
        go_enter Try.func31, Try.ntmps31
        go_wp2
        go_ret
        exact ⟨rfl, rfl⟩
      · have e : jn k 7 = false := by simp [jn, h8]
        rw [e]
        clear e
        go_enter Try.func31, Try.ntmps31
        go_wp2
        go_ret
        exact ⟨ret_bool (by simp [h8]), rfl⟩
    · have e : jn k p = false := by simp [jn, h4, h7]
      rw [e]
      clear e
      go_enter Try.func31, Try.ntmps31
      go_wp2
      go_ret
      exact ⟨rfl, rfl⟩
theorem has_neg (ao : Option Addr) (n cap : Nat) (y : Int) (w : World) : Calls Try.prog 33 #[.slice ao n cap, .int .i64 (-1), .int .i64 y] w fun e w' => e = .returned (.bool false) ∧ w = w' := by
  go_enter Try.func33, Try.ntmps33
  go_wp2
  go_ret
  exact ⟨rfl, rfl⟩
theorem has_out (ao : Option Addr) (n cap k : Nat) (y : Int) (w : World) (hk : n ≤ k) : Calls Try.prog 33 #[.slice ao n cap, .int .i64 (k : Int), .int .i64 y] w fun e w' => e = .returned (.bool false) ∧ w = w' := by
  have h1 : (0 : Int) ≤ (k : Int) := by omega
  have h2 : ¬ (k : Int) < (n : Int) := by omega
  clear hk
  go_enter Try.func33, Try.ntmps33
  go_wp2
  go_ret
  exact ⟨rfl, rfl⟩
theorem has_in (ao : Option Addr) (n cap k : Nat) (y : Int) (zs : List Int) (w : World) (h : Row .i64 w ao n cap zs) (hk : k < n) : Calls Try.prog 33 #[.slice ao n cap, .int .i64 (k : Int), .int .i64 y] w fun e w' => e = .returned (.bool (zs.getD k 0 == y)) ∧ w = w' := by
  have h1 : (0 : Int) ≤ (k : Int) := by omega
  have h2 : (k : Int) < (n : Int) := by omega
  obtain ⟨b, off, rfl, hbl, hc⟩ := h.cells (by omega)
  have ck := hc k (by rw [h.len]; exact hk)
  clear hc h
  generalize zs.getD k 0 = x at *
  go_enter Try.func33, Try.ntmps33
  go_wp2
  go_ret
  exact ⟨rfl, rfl⟩
theorem stretch_any (ao : Option Addr) (n cap f : Nat) (zs : List Int) (w : World) (h : Row .i64 w ao n cap zs) (hf : f < n) (hn : n ≤ 17592186044416) :
    Calls Try.prog 32 #[.slice ao n cap, .int .i64 (f : Int)] w fun e w' => ∃ to : Nat, e = .returned (.int .i64 (to : Int)) ∧ We.Str zs f to ∧ ∃ k, w' = w.drewN k := by
  obtain ⟨b, off, rfl, hbl, hc⟩ := h.cells (by omega)
  have HL := hide h.len
  have HC := hide (fun (j : Nat) (hj : j < n) => hc j (by rw [h.len]; exact hj))
  have cf := HC.out f hf
  have hf2 : (f : Int) < (n : Int) := by omega
  clear h hc
  go_enter Try.func32, Try.ntmps32
  go_wp2
  go_loopw [5] (fun v wr => ∃ to nq : Nat, v = .int .i64 (to : Int) ∧ f < to ∧ to ≤ n ∧ Hid (∀ i, f ≤ i → i < to → zs.getD i 0 = zs.getD f 0) ∧ wr = w.drewN nq) (fun v _ => n - (intOf v).toNat)
  case atStart => exact ⟨f + 1, 0, by go_num, by omega, by omega, hide (fun i h1 h2 => by rw [show i = f by omega]), rfl⟩
  case round =>
    obtain ⟨t, nq, rfl, ht1, ht2, hall, rfl⟩ := hrel
    by_cases hlt : t < n
    · have ct := HC.out t hlt
      have d1 : decide ((t : Int) < (n : Int)) = true := decide_eq_true (by omega)
      have d2 : decide (t < n) = true := decide_eq_true hlt
      have ht3 : (t : Int) < (n : Int) := by omega
      have HAL := hide (fun (he : zs.getD t 0 = zs.getD f 0) (i : Nat) (h1 : f ≤ i) (h2 : i < t + 1) => (show zs.getD i 0 = zs.getD f 0 from by
        by_cases hi : i = t
        · rw [hi]; exact he
        · exact hall.out i h1 (by omega)))
      have HST := hide (fun (he : ¬ zs.getD t 0 = zs.getD f 0) => (show We.Str zs f t from ⟨ht1, by rw [HL.out]; exact ht2, hall.out, fun _ => he⟩))
      clear hall
      obtain ⟨X, hX⟩ : ∃ X, zs.getD f 0 = X := ⟨_, rfl⟩
      have HX := hide hX
      rw [hX] at cf HAL HST
      obtain ⟨Y, hY⟩ : ∃ Y, zs.getD t 0 = Y := ⟨_, rfl⟩
      rw [hY] at ct HAL HST
      clear hX hY
      by_cases he : Y = X
      · have HA := hide (HAL.out he)
        subst he
        clear HAL HST
        go_wp2
        go_quiet (fail)
        go_wp2
        go_roundw
        case rel => exact ⟨t + 1, _, by go_num, by omega, by omega, hide (fun i h1 h2 => by rw [HA.out i h1 h2, HX.out]), by first | rfl | exact World.drewN_drewN _ _ _⟩
        case measure => simp [intOf]; omega
      · have HS := hide (HST.out he)
        have he2 : (Y == X) = false := beq_false_of_ne he
        clear HAL HST he
        go_wp2
        go_quiet (fail)
        go_wp2
        go_ret
        exact ⟨t, rfl, HS.out, _, by first | rfl | exact World.drewN_drewN _ _ _⟩
    · obtain rfl : t = n := by omega
      have d1 : decide ((t : Int) < (t : Int)) = false := decide_eq_false (by omega)
      have d2 : decide (t < t) = false := decide_eq_false (by omega)
      have HS := hide (show We.Str zs f t from ⟨ht1, by rw [HL.out]; exact Nat.le_refl _, hall.out, fun h => by rw [HL.out] at h; omega⟩)
      clear hall hlt
      go_wp2
      go_quiet (fail)
      go_wp2
      go_ret
      exact ⟨t, rfl, HS.out, _, by first | rfl | exact World.drewN_drewN _ _ _⟩
theorem fill_any (base g n cap c2 f m : Nat) (y : Int) (zs : List Int) (w0 w : World) (h : OW base g n cap zs w0 w) (hf : f + m ≤ n) (hn : n ≤ 17592186044416) :
    Calls Try.prog 34 #[.slice (some ⟨g, f, none⟩) m c2, .int .i64 y] w fun e w' => e = .returned (.tuple #[]) ∧ OW base g n cap (We.Fl zs f m y) w0 w' := by
  have HL := hide h.len
  have H0 := hide (show OW base g n cap (We.Fl zs f 0 y) w0 w from by rw [We.Fl_zero]; exact h)
  clear h
  go_enter Try.func34, Try.ntmps34
  go_wp2
  go_loopw [7] (fun v wr => ∃ k : Nat, v = .int .i64 (k : Int) ∧ k ≤ m ∧ Hid (OW base g n cap (We.Fl zs f k y) w0 wr)) (fun v _ => m - (intOf v).toNat)
  case atStart => exact ⟨0, rfl, Nat.zero_le _, H0⟩
  case round =>
    obtain ⟨k, rfl, hk, hO⟩ := hrel
    by_cases hlt : k < m
    · have hin : (k : Int) < (m : Int) := by omega
      have co := hO.out.cell (show f + k < n by omega)
      have hfz := hO.out.own.frozenAt (f + k)
      have HS := hide (hO.out.set (f + k) y)
      rw [← We.Fl_succ (show f + k < zs.length by rw [HL.out]; omega)] at HS
      generalize (We.Fl zs f k y).getD (f + k) 0 = old at co
      clear hO
      go_wp2
      go_roundw
      case rel => exact ⟨k + 1, by go_num, by omega, HS⟩
      case measure => simp [intOf]; omega
    · obtain rfl : k = m := by omega
      have hne : ¬ ((k : Int) < (k : Int)) := by omega
      clear hlt
      go_wp2
      go_end0
      exact ⟨rfl, hO.out⟩
end Go.Proofs.Ytkajiagflcflpaa
