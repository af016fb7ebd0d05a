import Derived.Test.YtmdmehopefgndaaGreatDoorZ07
import Derived.Test.YtmdmehopefgndaaGreatDoorZ21
import Derived.Test.YtmdmehopefgndaaGreatDoorZ16
/- The small functions of weak: mayBe, markBehind, joins, has, stretch, fill. -/
namespace Go.Proofs.YtmdmehopefgndaaGreatDoor
open Go.RowKit
set_option linter.unusedVariables false
set_option maxHeartbeats 1000000
set_option maxRecDepth 100000
theorem may_yes {x : Int} (h : We.May x) : true = decide (We.May x) := by simp [h]
theorem may_no {x : Int} (h : ¬ We.May x) : false = decide (We.May x) := by simp [h]
theorem mayBe_any (x : Int) (w : World) : Calls Tryz.prog 104 #[.int .i64 x] w fun e w' => e = .returned (.bool (decide (We.May x))) ∧ w = w' := by
  obtain ⟨b, hb⟩ : ∃ b, decide (We.May x) = b := ⟨_, rfl⟩
  rw [hb]
  have HB := hide hb
  have hc : (x = 17 ∧ b = false) ∨ (¬ x = 17 ∧ x = 15 ∧ b = false) ∨ (¬ x = 17 ∧ ¬ x = 15 ∧ x = 18 ∧ b = false) ∨ (¬ x = 17 ∧ ¬ x = 15 ∧ ¬ x = 18 ∧ x = 16 ∧ b = false) ∨ (¬ x = 17 ∧ ¬ x = 15 ∧ ¬ x = 18 ∧ ¬ x = 16 ∧ x = 19 ∧ b = false) ∨ (¬ x = 17 ∧ ¬ x = 15 ∧ ¬ x = 18 ∧ ¬ x = 16 ∧ ¬ x = 19 ∧ x = 10 ∧ b = false) ∨ (¬ x = 17 ∧ ¬ x = 15 ∧ ¬ x = 18 ∧ ¬ x = 16 ∧ ¬ x = 19 ∧ ¬ x = 10 ∧ ¬ 1 ≤ x ∧ b = false) ∨ (¬ x = 17 ∧ ¬ x = 15 ∧ ¬ x = 18 ∧ ¬ x = 16 ∧ ¬ x = 19 ∧ ¬ x = 10 ∧ 1 ≤ x ∧ ¬ x ≤ 23 ∧ b = false) ∨ (¬ x = 17 ∧ ¬ x = 15 ∧ ¬ x = 18 ∧ ¬ x = 16 ∧ ¬ x = 19 ∧ ¬ x = 10 ∧ 1 ≤ x ∧ x ≤ 23 ∧ b = true) := by
    cases b with
    | false => have := of_decide_eq_false hb; unfold We.May at this; simp only [reduceCtorEq, and_false, and_true, or_false]; omega
    | true => have := of_decide_eq_true hb; unfold We.May at this; simp only [reduceCtorEq, and_false, and_true, false_or]; omega
  clear hb HB
  rcases hc with ⟨rfl, rfl⟩ | ⟨h1, rfl, rfl⟩ | ⟨h1, h2, rfl, rfl⟩ | ⟨h1, h2, h3, rfl, rfl⟩ | ⟨h1, h2, h3, h4, rfl, rfl⟩ | ⟨h1, h2, h3, h4, h5, rfl, rfl⟩ | ⟨h1, h2, h3, h4, h5, h6, h7, rfl⟩ | ⟨h1, h2, h3, h4, h5, h6, h7, h8, rfl⟩ | ⟨h1, h2, h3, h4, h5, h6, h7, h8, rfl⟩
  all_goals
    go_enter Tryz.func104, Tryz.ntmps104
    go_wp2
    go_ret
    exact ⟨rfl, rfl⟩
theorem markBehind_any (x : Int) (w : World) : Calls Tryz.prog 120 #[.int .i64 x] w fun e w' => e = .returned (.int .i64 (We.mk x)) ∧ w = w' := by
  have hc : (x = 20) ∨ (¬ x = 20 ∧ x = 21) ∨ (¬ x = 20 ∧ ¬ x = 21 ∧ x = 22) ∨ (¬ x = 20 ∧ ¬ x = 21 ∧ ¬ x = 22 ∧ x = 23) ∨ (¬ x = 20 ∧ ¬ x = 21 ∧ ¬ x = 22 ∧ ¬ x = 23 ∧ We.mk x = x) := by
    by_cases h : x = 20 ∨ x = 21 ∨ x = 22 ∨ x = 23
    · omega
    · have : We.mk x = x := by unfold We.mk; rw [if_neg h]
      omega
  rcases hc with rfl | ⟨h1, rfl⟩ | ⟨h1, h2, rfl⟩ | ⟨h1, h2, h3, rfl⟩ | ⟨h1, h2, h3, h4, h5⟩
  rotate_left 4
  · rw [h5]; clear h5
    go_enter Tryz.func120, Tryz.ntmps120
    go_wp2
    go_ret
    exact ⟨rfl, rfl⟩
  all_goals
    go_enter Tryz.func120, Tryz.ntmps120
    go_wp2
    go_ret
    exact ⟨rfl, rfl⟩
/-- A separator within numbers of a type. -/
def jn (k p : Int) : Bool := (p == 4 && (k == 5 || k == 8)) || (p == 7 && k == 8)
theorem joins_any (k p : Int) (w : World) : Calls Tryz.prog 122 #[.int .i64 k, .int .i64 p] w fun e w' => e = .returned (.bool (jn k p)) ∧ w = w' := by
  by_cases h4 : p = 4
  · subst h4
    by_cases h5 : k = 5
    · subst h5
      go_enter Tryz.func122, Tryz.ntmps122
      go_wp2
      go_ret
      exact ⟨rfl, rfl⟩
    · by_cases h8 : k = 8
      · subst h8
        go_enter Tryz.func122, Tryz.ntmps122
        go_wp2
        go_ret
        exact ⟨rfl, rfl⟩
      · have e : jn k 4 = false := by simp [jn, h5, h8]
        rw [e]
        clear e
        go_enter Tryz.func122, Tryz.ntmps122
        go_wp2
        go_ret
        exact ⟨ret_bool (by simp [h5, h8]), rfl⟩
  · by_cases h7 : p = 7
    · subst h7
      by_cases h8 : k = 8
      · subst h8
        go_enter Tryz.func122, Tryz.ntmps122
        go_wp2
        go_ret
        exact ⟨rfl, rfl⟩
      · have e : jn k 7 = false := by simp [jn, h8]
        rw [e]
        clear e
        go_enter Tryz.func122, Tryz.ntmps122
        go_wp2
        go_ret
        exact ⟨ret_bool (by simp [h8]), rfl⟩
    · have e : jn k p = false := by simp [jn, h4, h7]
      rw [e]
      clear e
      go_enter Tryz.func122, Tryz.ntmps122
      go_wp2
      go_ret
      exact ⟨rfl, rfl⟩
theorem has_neg (ao : Option Addr) (n cap : Nat) (y : Int) (w : World) : Calls Tryz.prog 124 #[.slice ao n cap, .int .i64 (-1), .int .i64 y] w fun e w' => e = .returned (.bool false) ∧ w = w' := by
  go_enter Tryz.func124, Tryz.ntmps124
  go_wp2
  go_ret
  exact ⟨rfl, rfl⟩
theorem has_out (ao : Option Addr) (n cap k : Nat) (y : Int) (w : World) (hk : n ≤ k) : Calls Tryz.prog 124 #[.slice ao n cap, .int .i64 (k : Int), .int .i64 y] w fun e w' => e = .returned (.bool false) ∧ w = w' := by
  have h1 : (0 : Int) ≤ (k : Int) := by omega
  have h2 : ¬ (k : Int) < (n : Int) := by omega
  clear hk
  go_enter Tryz.func124, Tryz.ntmps124
  go_wp2
  go_ret
  exact ⟨rfl, rfl⟩
theorem has_in (ao : Option Addr) (n cap k : Nat) (y : Int) (zs : List Int) (w : World) (h : Row .i64 w ao n cap zs) (hk : k < n) : Calls Tryz.prog 124 #[.slice ao n cap, .int .i64 (k : Int), .int .i64 y] w fun e w' => e = .returned (.bool (zs.getD k 0 == y)) ∧ w = w' := by
  have h1 : (0 : Int) ≤ (k : Int) := by omega
  have h2 : (k : Int) < (n : Int) := by omega
  obtain ⟨b, off, rfl, hbl, hc⟩ := h.cells (by omega)
  have ck := hc k (by rw [h.len]; exact hk)
  clear hc h
  generalize zs.getD k 0 = x at *
  go_enter Tryz.func124, Tryz.ntmps124
  go_wp2
  go_ret
  exact ⟨rfl, rfl⟩
theorem stretch_any (ao : Option Addr) (n cap f : Nat) (zs : List Int) (w : World) (h : Row .i64 w ao n cap zs) (hf : f < n) (hn : n ≤ 17592186044416) :
    Calls Tryz.prog 123 #[.slice ao n cap, .int .i64 (f : Int)] w fun e w' => ∃ tq : Nat, e = .returned (.int .i64 (tq : Int)) ∧ We.Str zs f tq ∧ ∃ k, w' = w.drewN k := by
  obtain ⟨b, off, rfl, hbl, hc⟩ := h.cells (by omega)
  have HL := hide h.len
  have HC := hide (fun (j : Nat) (hj : j < n) => hc j (by rw [h.len]; exact hj))
  have cf := HC.out f hf
  have hf2 : (f : Int) < (n : Int) := by omega
  clear h hc
  go_enter Tryz.func123, Tryz.ntmps123
  go_wp2
  go_loopw [5] (fun v wr => ∃ tq nq : Nat, v = .int .i64 (tq : Int) ∧ f < tq ∧ tq ≤ n ∧ Hid (∀ i, f ≤ i → i < tq → zs.getD i 0 = zs.getD f 0) ∧ wr = w.drewN nq) (fun v _ => n - (intOf v).toNat)
  case atStart => exact ⟨f + 1, 0, by go_num, by omega, by omega, hide (fun i h1 h2 => by rw [show i = f by omega]), rfl⟩
  case round =>
    obtain ⟨t, nq, rfl, ht1, ht2, hall, rfl⟩ := hrel
    by_cases hlt : t < n
    · have ct := HC.out t hlt
      have d1 : decide ((t : Int) < (n : Int)) = true := decide_eq_true (by omega)
      have d2 : decide (t < n) = true := decide_eq_true hlt
      have ht3 : (t : Int) < (n : Int) := by omega
      have HAL := hide (fun (he : zs.getD t 0 = zs.getD f 0) (i : Nat) (h1 : f ≤ i) (h2 : i < t + 1) => (show zs.getD i 0 = zs.getD f 0 from by
        by_cases hi : i = t
        · rw [hi]; exact he
        · exact hall.out i h1 (by omega)))
      have HST := hide (fun (he : ¬ zs.getD t 0 = zs.getD f 0) => (show We.Str zs f t from ⟨ht1, by rw [HL.out]; exact ht2, hall.out, fun _ => he⟩))
      clear hall
      obtain ⟨X, hX⟩ : ∃ X, zs.getD f 0 = X := ⟨_, rfl⟩
      have HX := hide hX
      rw [hX] at cf HAL HST
      obtain ⟨Y, hY⟩ : ∃ Y, zs.getD t 0 = Y := ⟨_, rfl⟩
      rw [hY] at ct HAL HST
      clear hX hY
      by_cases he : Y = X
      · have HA := hide (HAL.out he)
        subst he
        clear HAL HST
        go_wp2
        go_quiet (fail)
        go_wp2
        go_roundw
        case rel => exact ⟨t + 1, _, by go_num, by omega, by omega, hide (fun i h1 h2 => by rw [HA.out i h1 h2, HX.out]), by first | rfl | exact World.drewN_drewN _ _ _⟩
        case measure => simp [intOf]; omega
      · have HS := hide (HST.out he)
        have he2 : (Y == X) = false := beq_false_of_ne he
        clear HAL HST he
        go_wp2
        go_quiet (fail)
        go_wp2
        go_ret
        exact ⟨t, rfl, HS.out, _, by first | rfl | exact World.drewN_drewN _ _ _⟩
    · obtain rfl : t = n := by omega
      have d1 : decide ((t : Int) < (t : Int)) = false := decide_eq_false (by omega)
      have d2 : decide (t < t) = false := decide_eq_false (by omega)
      have HS := hide (show We.Str zs f t from ⟨ht1, by rw [HL.out]; exact Nat.le_refl _, hall.out, fun h => by rw [HL.out] at h; omega⟩)
      clear hall hlt
      go_wp2
      go_quiet (fail)
      go_wp2
      go_ret
      exact ⟨t, rfl, HS.out, _, by first | rfl | exact World.drewN_drewN _ _ _⟩
theorem fill_any (base g n cap c2 f m : Nat) (y : Int) (zs : List Int) (w0 w : World) (h : OW base g n cap zs w0 w) (hf : f + m ≤ n) (hn : n ≤ 17592186044416) :
    Calls Tryz.prog 125 #[.slice (some ⟨g, f, none⟩) m c2, .int .i64 y] w fun e w' => e = .returned (.tuple #[]) ∧ OW base g n cap (We.Fl zs f m y) w0 w' := by
  have HL := hide h.len
  have H0 := hide (show OW base g n cap (We.Fl zs f 0 y) w0 w from by rw [We.Fl_zero]; exact h)
  clear h
  go_enter Tryz.func125, Tryz.ntmps125
  go_wp2
  go_loopw [7] (fun v wr => ∃ k : Nat, v = .int .i64 (k : Int) ∧ k ≤ m ∧ Hid (OW base g n cap (We.Fl zs f k y) w0 wr)) (fun v _ => m - (intOf v).toNat)
  case atStart => exact ⟨0, rfl, Nat.zero_le _, H0⟩
  case round =>
    obtain ⟨k, rfl, hk, hO⟩ := hrel
    by_cases hlt : k < m
    · have hin : (k : Int) < (m : Int) := by omega
      have co := hO.out.cell (show f + k < n by omega)
      have hfz := hO.out.own.frozenAt (f + k)
      have HS := hide (hO.out.set (f + k) y)
      rw [← We.Fl_succ (show f + k < zs.length by rw [HL.out]; omega)] at HS
      generalize (We.Fl zs f k y).getD (f + k) 0 = old at co
      clear hO
      go_wp2
      go_roundw
      case rel => exact ⟨k + 1, by go_num, by omega, HS⟩
      case measure => simp [intOf]; omega
    · obtain rfl : k = m := by omega
      have hne : ¬ ((k : Int) < (k : Int)) := by omega
      clear hlt
      go_wp2
      go_end0
      exact ⟨rfl, hO.out⟩
end Go.Proofs.YtmdmehopefgndaaGreatDoor

/- Rules 1, 2, 3, 6, 7: marks, numbers, arabicNumbers, arabicLetters, leftovers, latinNumbers. -/
namespace Go.Proofs.YtmdmehopefgndaaGreatDoor
open Go.RowKit
set_option linter.unusedVariables false
set_option maxHeartbeats 1000000
set_option maxRecDepth 100000
theorem OW.next {base g n cap r : Nat} {s : Int} {zs : List Int} {w0 w : World} {k : Nat} (h : OW base g n cap (We.P r s zs k) w0 w) (hk : k < zs.length) {y : Int} (hy : We.pv r s zs (k + 1) = y) : OW base g n cap (We.P r s zs (k + 1)) w0 (w.setCell ⟨g, k, none⟩ (.int .i64 y)) := by
  have := h.set k y
  rw [← hy, ← We.P_set hk] at this
  rw [← hy]; exact this
theorem OW.stay {base g n cap r : Nat} {s : Int} {zs : List Int} {w0 w : World} {k : Nat} (h : OW base g n cap (We.P r s zs k) w0 w) (hy : We.pv r s zs (k + 1) = zs.getD k 0) : OW base g n cap (We.P r s zs (k + 1)) w0 w := by
  rw [We.P_same hy]; exact h
theorem pv1 (s : Int) (t : List Int) (k : Nat) : We.pv 1 s t (k + 1) = if t.getD k 0 = 9 then We.mk (We.pv 1 s t k) else t.getD k 0 := rfl
theorem pv2 (s : Int) (t : List Int) (k : Nat) : We.pv 2 s t (k + 1) = if t.getD k 0 = 4 ∧ We.strong t s k = 3 then 7 else t.getD k 0 := rfl
theorem pv3 (s : Int) (t : List Int) (k : Nat) : We.pv 3 s t (k + 1) = if t.getD k 0 = 3 then 2 else t.getD k 0 := rfl
theorem pv6 (s : Int) (t : List Int) (k : Nat) : We.pv 6 s t (k + 1) = if t.getD k 0 = 5 ∨ t.getD k 0 = 6 ∨ t.getD k 0 = 8 then 14 else t.getD k 0 := rfl
theorem pv7 (s : Int) (t : List Int) (k : Nat) : We.pv 7 s t (k + 1) = if t.getD k 0 = 4 ∧ We.strong t s k = 1 then 1 else t.getD k 0 := rfl
theorem strong_succ (s : Int) (t : List Int) (k : Nat) : We.strong t s (k + 1) = if t.getD k 0 = 1 ∨ t.getD k 0 = 2 ∨ t.getD k 0 = 3 then t.getD k 0 else We.strong t s k := rfl
/-- What a walk is told of a place that it comes to. -/
theorem marks_any (base g n cap : Nat) (s : Int) (zs : List Int) (w0 w : World) (h : OW base g n cap zs w0 w) (hn : n ≤ 17592186044416) :
    Calls Tryz.prog 105 #[.slice (some ⟨g, 0, none⟩) n cap, .int .i64 s] w fun e w' => e = .returned (.tuple #[]) ∧ OW base g n cap (We.R 1 s zs) w0 w' := by
  have HL := hide h.len
  have H0 := hide (show OW base g n cap (We.P 1 s zs 0) w0 w from by rw [We.P_zero]; exact h)
  have HE := hide (show We.P 1 s zs n = We.R 1 s zs from We.P_end (by rw [h.len]; exact Nat.le_refl _))
  clear h
  go_enter Tryz.func105, Tryz.ntmps105
  go_wp2
  go_loopw [4, 10] (fun v4 v wr => ∃ k : Nat, v = .int .i64 (k : Int) ∧ k ≤ n ∧ v4 = .int .i64 (We.pv 1 s zs k) ∧ Hid (OW base g n cap (We.P 1 s zs k) w0 wr)) (fun _ v _ => n - (intOf v).toNat)
  case atStart => exact ⟨0, rfl, Nat.zero_le _, rfl, H0⟩
  case round =>
    obtain ⟨k, rfl, hk, rfl, hO⟩ := hrel
    by_cases hlt : k < n
    · have hin : (k : Int) < (n : Int) := by omega
      have hkl : k < zs.length := by rw [HL.out]; exact hlt
      have co := hO.out.cell hlt
      rw [We.P_here hkl (Nat.le_refl _)] at co
      have hfz := hO.out.own.frozenAt k
      have HP := hide (pv1 s zs k)
      have HN := hide (fun (y : Int) => hO.out.next (y := y) hkl)
      have HT := hide hO.out.stay
      have HM := hide (fun w' => markBehind_any (We.pv 1 s zs k) w')
      obtain ⟨A, hA⟩ : ∃ A, We.pv 1 s zs k = A := ⟨_, rfl⟩
      rw [hA] at HP HM ⊢
      obtain ⟨x, hx⟩ : ∃ x, zs.getD k 0 = x := ⟨_, rfl⟩
      rw [hx] at HP HT co
      clear hO hA hx hkl
      by_cases h9 : x = 9
      · have hp := HP.out
        rw [if_pos h9] at hp
        have HS := hide (HN.out _ hp)
        have HV := hide hp
        clear hp HP HN HT
        generalize We.mk A = y at *
        subst h9
        go_wp2_with (go_at_call 120; refine (HM.out _).mono ?_; rintro e w' ⟨rfl, rfl⟩)
        go_roundw
        case rel => exact ⟨k + 1, by go_num, by omega, by rw [HV.out], HS⟩
        case measure => simp [intOf]; omega
      · have hp := HP.out
        rw [if_neg h9] at hp
        have HS := hide (HT.out hp)
        have HV := hide hp
        have h9' : (x == 9) = false := beq_false_of_ne h9
        clear hp HP HN HT h9 HM
        go_wp2
        go_roundw
        case rel => exact ⟨k + 1, by go_num, by omega, by rw [HV.out], HS⟩
        case measure => simp [intOf]; omega
    · obtain rfl : k = n := by omega
      have hne : ¬ ((k : Int) < (k : Int)) := by omega
      rw [HE.out] at hO
      clear hlt
      go_wp2
      go_end0
      exact ⟨rfl, hO.out⟩
theorem arabicLetters_any (base g n cap : Nat) (s : Int) (zs : List Int) (w0 w : World) (h : OW base g n cap zs w0 w) (hn : n ≤ 17592186044416) :
    Calls Tryz.prog 107 #[.slice (some ⟨g, 0, none⟩) n cap, .int .i64 s] w fun e w' => e = .returned (.tuple #[]) ∧ OW base g n cap (We.R 3 s zs) w0 w' := by
  have HL := hide h.len
  have H0 := hide (show OW base g n cap (We.P 3 s zs 0) w0 w from by rw [We.P_zero]; exact h)
  have HE := hide (show We.P 3 s zs n = We.R 3 s zs from We.P_end (by rw [h.len]; exact Nat.le_refl _))
  clear h
  go_enter Tryz.func107, Tryz.ntmps107
  go_wp2
  go_loopw [8] (fun v wr => ∃ k : Nat, v = .int .i64 (k : Int) ∧ k ≤ n ∧ Hid (OW base g n cap (We.P 3 s zs k) w0 wr)) (fun v _ => n - (intOf v).toNat)
  case atStart => exact ⟨0, rfl, Nat.zero_le _, H0⟩
  case round =>
    obtain ⟨k, rfl, hk, hO⟩ := hrel
    by_cases hlt : k < n
    · have hin : (k : Int) < (n : Int) := by omega
      have hkl : k < zs.length := by rw [HL.out]; exact hlt
      have co := hO.out.cell hlt
      rw [We.P_here hkl (Nat.le_refl _)] at co
      have hfz := hO.out.own.frozenAt k
      have HP := hide (pv3 s zs k)
      have HN := hide (fun (y : Int) => hO.out.next (y := y) hkl)
      have HT := hide hO.out.stay
      obtain ⟨x, hx⟩ : ∃ x, zs.getD k 0 = x := ⟨_, rfl⟩
      rw [hx] at HP HT co
      clear hO hx hkl
      by_cases h9 : x = 3
      · have hp := HP.out
        rw [if_pos h9] at hp
        have HS := hide (HN.out _ hp)
        clear hp HP HN HT
        subst h9
        go_wp2
        go_roundw
        case rel => exact ⟨k + 1, by go_num, by omega, HS⟩
        case measure => simp [intOf]; omega
      · have hp := HP.out
        rw [if_neg h9] at hp
        have HS := hide (HT.out hp)
        have h9' : (x == 3) = false := beq_false_of_ne h9
        clear hp HP HN HT h9
        go_wp2
        go_roundw
        case rel => exact ⟨k + 1, by go_num, by omega, HS⟩
        case measure => simp [intOf]; omega
    · obtain rfl : k = n := by omega
      have hne : ¬ ((k : Int) < (k : Int)) := by omega
      rw [HE.out] at hO
      clear hlt
      go_wp2
      go_end0
      exact ⟨rfl, hO.out⟩
theorem leftovers_any (base g n cap : Nat) (s : Int) (zs : List Int) (w0 w : World) (h : OW base g n cap zs w0 w) (hn : n ≤ 17592186044416) :
    Calls Tryz.prog 110 #[.slice (some ⟨g, 0, none⟩) n cap, .int .i64 s] w fun e w' => e = .returned (.tuple #[]) ∧ OW base g n cap (We.R 6 s zs) w0 w' := by
  have HL := hide h.len
  have H0 := hide (show OW base g n cap (We.P 6 s zs 0) w0 w from by rw [We.P_zero]; exact h)
  have HE := hide (show We.P 6 s zs n = We.R 6 s zs from We.P_end (by rw [h.len]; exact Nat.le_refl _))
  clear h
  go_enter Tryz.func110, Tryz.ntmps110
  go_wp2
  go_loopw [8] (fun v wr => ∃ k : Nat, v = .int .i64 (k : Int) ∧ k ≤ n ∧ Hid (OW base g n cap (We.P 6 s zs k) w0 wr)) (fun v _ => n - (intOf v).toNat)
  case atStart => exact ⟨0, rfl, Nat.zero_le _, H0⟩
  case round =>
    obtain ⟨k, rfl, hk, hO⟩ := hrel
    by_cases hlt : k < n
    · have hin : (k : Int) < (n : Int) := by omega
      have hkl : k < zs.length := by rw [HL.out]; exact hlt
      have co := hO.out.cell hlt
      rw [We.P_here hkl (Nat.le_refl _)] at co
      have hfz := hO.out.own.frozenAt k
      have HP := hide (pv6 s zs k)
      have HN := hide (fun (y : Int) => hO.out.next (y := y) hkl)
      have HT := hide hO.out.stay
      obtain ⟨x, hx⟩ : ∃ x, zs.getD k 0 = x := ⟨_, rfl⟩
      rw [hx] at HP HT co
      clear hO hx hkl
      have hc : (x = 5 ∨ (¬ x = 5 ∧ x = 6) ∨ (¬ x = 5 ∧ ¬ x = 6 ∧ x = 8)) ∨ (¬ x = 5 ∧ ¬ x = 6 ∧ ¬ x = 8) := by omega
      rcases hc with h9 | ⟨h5, h6, h8⟩
      · have hp := HP.out
        rw [if_pos (by omega)] at hp
        have HS := hide (HN.out _ hp)
        clear hp HP HN HT
        rcases h9 with rfl | ⟨h5, rfl⟩ | ⟨h5, h6, rfl⟩
        all_goals
          go_wp2
          go_roundw
          case rel => exact ⟨k + 1, by go_num, by omega, HS⟩
          case measure => simp [intOf]; omega
      · have hp := HP.out
        rw [if_neg (by omega)] at hp
        have HS := hide (HT.out hp)
        have e5 : (x == 5) = false := beq_false_of_ne h5
        have e6 : (x == 6) = false := beq_false_of_ne h6
        have e8 : (x == 8) = false := beq_false_of_ne h8
        clear hp HP HN HT h5 h6 h8
        go_wp2
        go_roundw
        case rel => exact ⟨k + 1, by go_num, by omega, HS⟩
        case measure => simp [intOf]; omega
    · obtain rfl : k = n := by omega
      have hne : ¬ ((k : Int) < (k : Int)) := by omega
      rw [HE.out] at hO
      clear hlt
      go_wp2
      go_end0
      exact ⟨rfl, hO.out⟩
/-- Rules 2 and 7. -/
def Num (r : Nat) (st ot : Int) : Prop := ∀ s t k, We.pv r s t (k + 1) = if t.getD k 0 = 4 ∧ We.strong t s k = st then ot else t.getD k 0
theorem numbers_any (r : Nat) (st ot : Int) (hr : Num r st ot) (base g n cap : Nat) (s : Int) (zs : List Int) (w0 w : World) (h : OW base g n cap zs w0 w) (hn : n ≤ 17592186044416) :
    Calls Tryz.prog 121 #[.slice (some ⟨g, 0, none⟩) n cap, .int .i64 s, .int .i64 st, .int .i64 ot] w fun e w' => e = .returned (.tuple #[]) ∧ OW base g n cap (We.R r s zs) w0 w' := by
  have HL := hide h.len
  have H0 := hide (show OW base g n cap (We.P r s zs 0) w0 w from by rw [We.P_zero]; exact h)
  have HE := hide (show We.P r s zs n = We.R r s zs from We.P_end (by rw [h.len]; exact Nat.le_refl _))
  have HR := hide hr
  clear h hr
  go_enter Tryz.func121, Tryz.ntmps121
  go_wp2
  go_loopw [8, 14] (fun v8 v wr => ∃ k : Nat, v = .int .i64 (k : Int) ∧ k ≤ n ∧ v8 = .int .i64 (We.strong zs s k) ∧ Hid (OW base g n cap (We.P r s zs k) w0 wr)) (fun _ v _ => n - (intOf v).toNat)
  case atStart => exact ⟨0, rfl, Nat.zero_le _, rfl, H0⟩
  case round =>
    obtain ⟨k, rfl, hk, rfl, hO⟩ := hrel
    by_cases hlt : k < n
    · have hin : (k : Int) < (n : Int) := by omega
      have hkl : k < zs.length := by rw [HL.out]; exact hlt
      have co := hO.out.cell hlt
      rw [We.P_here hkl (Nat.le_refl _)] at co
      have hfz := hO.out.own.frozenAt k
      have HP := hide (HR.out s zs k)
      have HG := hide (strong_succ s zs k)
      have HN := hide (fun (y : Int) => hO.out.next (y := y) hkl)
      have HT := hide hO.out.stay
      obtain ⟨A, hA⟩ : ∃ A, We.strong zs s k = A := ⟨_, rfl⟩
      rw [hA] at HP HG ⊢
      obtain ⟨x, hx⟩ : ∃ x, zs.getD k 0 = x := ⟨_, rfl⟩
      rw [hx] at HP HT HG co
      clear hO hA hx hkl
      have hc : (x = 1 ∨ (¬ x = 1 ∧ x = 2) ∨ (¬ x = 1 ∧ ¬ x = 2 ∧ x = 3)) ∨ (¬ x = 1 ∧ ¬ x = 2 ∧ ¬ x = 3) := by omega
      rcases hc with h9 | ⟨h1, h2, h3⟩
      · have hp := HP.out
        rw [if_neg (by omega)] at hp
        have hg := HG.out
        rw [if_pos (by omega)] at hg
        have HS := hide (HT.out hp)
        have HV := hide hg
        clear hp hg HP HN HT HG
        rcases h9 with rfl | ⟨h1, rfl⟩ | ⟨h1, h2, rfl⟩
        all_goals
          go_wp2
          go_roundw
          case rel => exact ⟨k + 1, by go_num, by omega, by rw [HV.out], HS⟩
          case measure => simp [intOf]; omega
      · have hg := HG.out
        rw [if_neg (by omega)] at hg
        have HV := hide hg
        have e1 : (x == 1) = false := beq_false_of_ne h1
        have e2 : (x == 2) = false := beq_false_of_ne h2
        have e3 : (x == 3) = false := beq_false_of_ne h3
        clear hg HG h1 h2 h3
        by_cases h4 : x = 4
        · by_cases hs : A = st
          · have hp := HP.out
            rw [if_pos ⟨h4, hs⟩] at hp
            have HS := hide (HN.out _ hp)
            clear hp HP HN HT e1 e2 e3
            subst h4 hs
            go_wp2
            go_roundw
            case rel => exact ⟨k + 1, by go_num, by omega, by rw [HV.out], HS⟩
            case measure => simp [intOf]; omega
          · have hp := HP.out
            rw [if_neg (fun h => hs h.2)] at hp
            have HS := hide (HT.out hp)
            have es : (A == st) = false := beq_false_of_ne hs
            clear hp HP HN HT e1 e2 e3 hs
            subst h4
            go_wp2
            go_roundw
            case rel => exact ⟨k + 1, by go_num, by omega, by rw [HV.out], HS⟩
            case measure => simp [intOf]; omega
        · have hp := HP.out
          rw [if_neg (fun h => h4 h.1)] at hp
          have HS := hide (HT.out hp)
          have e4 : (x == 4) = false := beq_false_of_ne h4
          clear hp HP HN HT h4
          go_wp2
          go_roundw
          case rel => exact ⟨k + 1, by go_num, by omega, by rw [HV.out], HS⟩
          case measure => simp [intOf]; omega
    · obtain rfl : k = n := by omega
      have hne : ¬ ((k : Int) < (k : Int)) := by omega
      rw [HE.out] at hO
      clear hlt
      go_wp2
      go_end0
      exact ⟨rfl, hO.out⟩
theorem arabicNumbers_any (base g n cap : Nat) (s : Int) (zs : List Int) (w0 w : World) (h : OW base g n cap zs w0 w) (hn : n ≤ 17592186044416) :
    Calls Tryz.prog 106 #[.slice (some ⟨g, 0, none⟩) n cap, .int .i64 s] w fun e w' => e = .returned (.tuple #[]) ∧ OW base g n cap (We.R 2 s zs) w0 w' := by
  have HN := hide (numbers_any 2 3 7 (fun _ _ _ => rfl) base g n cap s zs w0 w h hn)
  clear h
  go_enter Tryz.func106, Tryz.ntmps106
  go_wp2_with (go_at_call 121; refine HN.out.mono ?_; rintro e w' ⟨rfl, hO⟩)
  go_end0
  exact ⟨rfl, hO⟩
theorem latinNumbers_any (base g n cap : Nat) (s : Int) (zs : List Int) (w0 w : World) (h : OW base g n cap zs w0 w) (hn : n ≤ 17592186044416) :
    Calls Tryz.prog 111 #[.slice (some ⟨g, 0, none⟩) n cap, .int .i64 s] w fun e w' => e = .returned (.tuple #[]) ∧ OW base g n cap (We.R 7 s zs) w0 w' := by
  have HN := hide (numbers_any 7 1 1 (fun _ _ _ => rfl) base g n cap s zs w0 w h hn)
  clear h
  go_enter Tryz.func111, Tryz.ntmps111
  go_wp2_with (go_at_call 121; refine HN.out.mono ?_; rintro e w' ⟨rfl, hO⟩)
  go_end0
  exact ⟨rfl, hO⟩
end Go.Proofs.YtmdmehopefgndaaGreatDoor

/- Rules 4 and 5: separators, terminators. -/
namespace Go.Proofs.YtmdmehopefgndaaGreatDoor
open Go.RowKit
set_option linter.unusedVariables false
set_option maxHeartbeats 1000000
set_option maxRecDepth 100000
theorem pv4 (s : Int) (t : List Int) (k : Nat) : We.pv 4 s t (k + 1) = if We.pv 4 s t k = t.getD (k + 1) 0 ∧ ((t.getD k 0 = 5 ∧ t.getD (k + 1) 0 = 4) ∨ (t.getD k 0 = 8 ∧ (t.getD (k + 1) 0 = 4 ∨ t.getD (k + 1) 0 = 7))) then t.getD (k + 1) 0 else t.getD k 0 := rfl
theorem jn_yes {x p y : Int} (h : p = y) (hj : jn x p = true) : p = y ∧ ((x = 5 ∧ y = 4) ∨ (x = 8 ∧ (y = 4 ∨ y = 7))) := by
  subst h
  simp only [jn, Bool.or_eq_true, Bool.and_eq_true, beq_iff_eq] at hj
  omega
theorem jn_no {x p y : Int} (h : ¬ (p = y ∧ jn x p = true)) : ¬ (p = y ∧ ((x = 5 ∧ y = 4) ∨ (x = 8 ∧ (y = 4 ∨ y = 7)))) := by
  rintro ⟨rfl, h2⟩
  refine h ⟨rfl, ?_⟩
  simp only [jn, Bool.or_eq_true, Bool.and_eq_true, beq_iff_eq]
  omega
theorem separators_any (base g n cap : Nat) (s : Int) (hs : We.Side s) (zs : List Int) (w0 w : World) (h : OW base g n cap zs w0 w) (hn : n ≤ 17592186044416) :
    Calls Tryz.prog 108 #[.slice (some ⟨g, 0, none⟩) n cap, .int .i64 s] w fun e w' => e = .returned (.tuple #[]) ∧ OW base g n cap (We.R 4 s zs) w0 w' := by
  have HL := hide h.len
  have H0 := hide (show OW base g n cap (We.P 4 s zs 1) w0 w from by rw [We.P_same (We.four_first hs), We.P_zero]; exact h)
  have HE := hide (fun (k : Nat) (hk : n ≤ k + 1) => (show We.P 4 s zs k = We.R 4 s zs from by
    have hl := HL.out
    rw [← We.P_end (show zs.length ≤ k + 1 by omega)]
    exact (We.P_same (We.four_last (by omega))).symm))
  clear h
  go_enter Tryz.func108, Tryz.ntmps108
  go_wp2
  go_loopw [4] (fun v wr => ∃ k : Nat, v = .int .i64 ((k : Int) + 1) ∧ (k = 0 ∨ k + 2 ≤ n) ∧ Hid (OW base g n cap (We.P 4 s zs (k + 1)) w0 wr)) (fun v _ => n - (intOf v).toNat)
  case atStart => exact ⟨0, rfl, .inl rfl, H0⟩
  case round =>
    obtain ⟨k, rfl, hk, hO⟩ := hrel
    by_cases hlt : k + 2 < n
    · have hin : (k : Int) + 1 < (n : Int) - 1 := by omega
      have hl := HL.out
      have hb1 : (k : Int) < (n : Int) := by omega
      have hb2 : ((k : Int) + 1) < (n : Int) := by omega
      have hb3 : ((k : Int) + 1 + 1) < (n : Int) := by omega
      have c1 := hO.out.cell (show k < n by omega)
      have c2 := hO.out.cell (show k + 1 < n by omega)
      have c3 := hO.out.cell (show k + 1 + 1 < n by omega)
      have hfz := hO.out.own.frozenAt (k + 1)
      rw [We.P_last (by omega)] at c1
      rw [We.P_here (by omega) (by omega)] at c2 c3
      have HP := hide (pv4 s zs (k + 1))
      have HN := hide (fun (nq : Nat) (y : Int) => (hO.out.drewN nq).next (y := y) (show k + 1 < zs.length by omega))
      have HT := hide (fun (nq : Nat) => (hO.out.drewN nq).stay)
      obtain ⟨p, hp⟩ : ∃ p, We.pv 4 s zs (k + 1) = p := ⟨_, rfl⟩
      rw [hp] at HP c1
      obtain ⟨x, hx⟩ : ∃ x, zs.getD (k + 1) 0 = x := ⟨_, rfl⟩
      rw [hx] at HP HT c2
      obtain ⟨y, hy⟩ : ∃ y, zs.getD (k + 1 + 1) 0 = y := ⟨_, rfl⟩
      rw [hy] at HP c3
      have HJ := hide (fun w' => joins_any x p w')
      clear hO hp hx hy hl
      by_cases hj : jn x p = true
      · rw [hj] at HJ
        by_cases hpy : p = y
        · have hP := HP.out
          rw [if_pos (jn_yes hpy hj), ← hpy] at hP
          have HS := hide (fun nq => HN.out nq _ hP)
          have hE : (p == y) = true := beq_iff_eq.2 hpy
          clear hP HP HN HT hj hpy
          go_wp2_with fail
          go_quiet (first | (go_at_call 122; refine Calls.quiet_of_same ((HJ.out _).mono fun _ _ ⟨he, hm⟩ => ⟨he, hm.symm⟩)))
          go_wp2
          go_roundw
          case rel => exact ⟨k + 1, by go_num, by omega, hide (HS.out _)⟩
          case measure => simp [intOf]; omega
        · have hP := HP.out
          rw [if_neg (jn_no (fun h => hpy h.1))] at hP
          have HS := hide (fun nq => HT.out nq hP)
          have hE : (p == y) = false := beq_false_of_ne hpy
          clear hP HP HN HT hj hpy
          go_wp2_with fail
          go_quiet (first | (go_at_call 122; refine Calls.quiet_of_same ((HJ.out _).mono fun _ _ ⟨he, hm⟩ => ⟨he, hm.symm⟩)))
          go_wp2
          go_roundw
          case rel => exact ⟨k + 1, by go_num, by omega, hide (HS.out _)⟩
          case measure => simp [intOf]; omega
      · have hP := HP.out
        rw [if_neg (jn_no (fun h => hj h.2))] at hP
        have HS := hide (fun nq => HT.out nq hP)
        rw [Bool.not_eq_true] at hj
        rw [hj] at HJ
        clear hP HP HN HT hj
        go_wp2_with fail
        go_quiet (first | (go_at_call 122; refine Calls.quiet_of_same ((HJ.out _).mono fun _ _ ⟨he, hm⟩ => ⟨he, hm.symm⟩)))
        go_wp2
        go_roundw
        case rel => exact ⟨k + 1, by go_num, by omega, hide (HS.out _)⟩
        case measure => simp [intOf]; omega
    · have hne : ¬ (k : Int) + 1 < (n : Int) - 1 := by omega
      rw [HE.out (k + 1) (by omega)] at hO
      clear hlt
      go_wp2
      go_end0
      exact ⟨rfl, hO.out⟩
/-- What stands about a stretch, as the walk asks. -/
theorem terminators_any (base g n cap : Nat) (s : Int) (zs : List Int) (w0 w : World) (h : OW base g n cap zs w0 w) (hn : n ≤ 17592186044416) :
    Calls Tryz.prog 109 #[.slice (some ⟨g, 0, none⟩) n cap, .int .i64 s] w fun e w' => e = .returned (.tuple #[]) ∧ OW base g n cap (We.R 5 s zs) w0 w' := by
  obtain ⟨ii, hii, hy0, hy1, hy2⟩ := info_parts infoInt
  have HII : Hid (Tryz.prog.info? 3 = some ii) := hii
  have HL := hide h.len
  have hcap : n ≤ cap := h.row.le
  have H0 := hide (show OW base g n cap (We.P 5 s zs 0) w0 w from by rw [We.P_zero]; exact h)
  have HE := hide (show We.P 5 s zs n = We.R 5 s zs from We.P_end (by rw [h.len]; exact Nat.le_refl _))
  clear h hii hy0 hy1 hy2
  go_enter Tryz.func109, Tryz.ntmps109
  go_wp2
  go_loopw [4] (fun v wr => ∃ f : Nat, v = .int .i64 (f : Int) ∧ f ≤ n ∧ Hid (We.Edge zs f) ∧ Hid (OW base g n cap (We.P 5 s zs f) w0 wr)) (fun v _ => n - (intOf v).toNat)
  case atStart => exact ⟨0, rfl, Nat.zero_le _, hide (We.edge_zero zs), H0⟩
  case round =>
    obtain ⟨f, rfl, hf, hE, hO⟩ := hrel
    by_cases hlt : f < n
    · have hin : (f : Int) < (n : Int) := by omega
      have HST := hide (stretch_any (some ⟨g, 0, none⟩) n cap f (We.P 5 s zs f) wr hO.out.row hlt hn)
      go_wp2_with fail
      refine HST.out.mono ?_
      rintro e w1 ⟨e1, rfl, hS, nq, rfl⟩
      have hl := HL.out
      have hS' : We.Str zs f e1 := by
        have hle := hS.le
        rw [We.P_len] at hle
        refine ⟨hS.lt, hle, fun i h1 h2 => ?_, fun h1 => ?_⟩
        · have := hS.all i h1 h2
          rw [We.P_here (by omega) h1, We.P_here (by omega) (Nat.le_refl _)] at this
          exact this
        · have h3 := hS.lt
          have := hS.out (by rw [We.P_len]; exact h1)
          rw [We.P_here h1 (by omega), We.P_here (by omega) (Nat.le_refl _)] at this
          exact this
      have he1 := hS'.lt
      have he2 : e1 ≤ n := by have := hS'.le; omega
      have HSS := hide hS'
      have hO2 := hide (hO.out.drewN nq)
      clear hO hS hS' HST
      generalize wr.drewN nq = w1 at *
      have co := hO2.out.cell hlt
      rw [We.P_here (by omega) (Nat.le_refl _)] at co
      have HED := hide (We.edge_next HSS.out)
      have hin2 : (e1 : Int) ≤ (n : Int) := by omega
      by_cases h6 : zs.getD f 0 = 6
      · rw [h6] at co
        have hA : ∃ A : Bool, (A = true ↔ (0 < f ∧ zs.getD (f - 1) 0 = 4)) ∧ Calls Tryz.prog 124 #[.slice (some ⟨g, 0, none⟩) n cap, .int .i64 ((f : Int) - 1), .int .i64 4] w1 fun e w' => e = .returned (.bool A) ∧ w1 = w' := by
          cases f with
          | zero => exact ⟨false, by simp, has_neg (some ⟨g, 0, none⟩) n cap 4 w1⟩
          | succ f =>
            have := has_in (some ⟨g, 0, none⟩) n cap f 4 (We.P 5 s zs (f + 1)) w1 hO2.out.row (by omega)
            rw [We.P_last (by omega), We.five_prev hE.out (by omega) h6] at this
            refine ⟨zs.getD f 0 == 4, by simp, ?_⟩
            rw [show ((f + 1 : Nat) : Int) - 1 = (f : Int) by omega]
            exact this
        obtain ⟨A, hA1, hA2⟩ := hA
        have hB : ∃ B : Bool, (B = true ↔ zs.getD e1 0 = 4) ∧ Calls Tryz.prog 124 #[.slice (some ⟨g, 0, none⟩) n cap, .int .i64 (e1 : Int), .int .i64 4] w1 fun e w' => e = .returned (.bool B) ∧ w1 = w' := by
          by_cases hen : e1 < n
          · have := has_in (some ⟨g, 0, none⟩) n cap e1 4 (We.P 5 s zs f) w1 hO2.out.row hen
            rw [We.P_here (by omega) (by omega)] at this
            exact ⟨zs.getD e1 0 == 4, by simp, this⟩
          · exact ⟨false, by rw [We.getD_out (by omega)]; simp, has_out (some ⟨g, 0, none⟩) n cap e1 4 w1 (by omega)⟩
        obtain ⟨B, hB1, hB2⟩ := hB
        have HA2 := hide hA2
        have HB2 := hide hB2
        clear hA2 hB2 hl
        by_cases hAB : A = true ∨ B = true
        · have hH : We.Hit zs f e1 := ⟨h6, by rw [← hA1, ← hB1]; exact hAB⟩
          have HF := hide (fill_any base g n cap (cap - f) f (e1 - f) 4 (We.P 5 s zs f) w0 w1 hO2.out (by omega) hn)
          rw [← We.P_fill HSS.out hE.out hH] at HF
          have hsl := fun w' => run_mid Tryz.underlying27 HII.out cellsInt (some ⟨g, 0, none⟩) n cap f e1 (by omega) (by omega) w'
          have htl : tl (some ⟨g, 0, none⟩) cap f = some ⟨g, f, none⟩ := by
            unfold tl
            rw [if_neg (by omega)]
            simp only [Option.map_some, Option.some.injEq]
            unfold Addr.add
            split <;> simp_all
          rw [htl] at hsl
          obtain ⟨m, hm⟩ : ∃ m, e1 - f = m := ⟨_, rfl⟩
          obtain ⟨c2, hc2⟩ : ∃ c2, cap - f = c2 := ⟨_, rfl⟩
          rw [hm, hc2] at HF hsl
          clear hA1 hB1 h6 hH htl hm hc2 hO2 HSS
          cases A with
          | true =>
            clear HB2 hAB
            go_wp2_with fail
            refine HA2.out.mono ?_
            rintro e w2 ⟨rfl, rfl⟩
            go_wp2_with fail
            refine HF.out.mono ?_
            rintro e w2 ⟨rfl, hO3⟩
            have HM := hide hO3
            clear hO3 HF hsl HA2
            go_wp2
            go_roundw
            case rel => exact ⟨e1, by go_num, by omega, HED, HM⟩
            case measure => simp [intOf]; omega
          | false =>
            obtain rfl : B = true := by simpa using hAB
            clear hAB
            go_wp2_with fail
            refine HA2.out.mono ?_
            rintro e w2 ⟨rfl, rfl⟩
            go_wp2_with fail
            refine HB2.out.mono ?_
            rintro e w2 ⟨rfl, rfl⟩
            go_wp2_with fail
            refine HF.out.mono ?_
            rintro e w2 ⟨rfl, hO3⟩
            have HM := hide hO3
            clear hO3 HF hsl HA2 HB2
            go_wp2
            go_roundw
            case rel => exact ⟨e1, by go_num, by omega, HED, HM⟩
            case measure => simp [intOf]; omega
        · have hH : ¬ We.Hit zs f e1 := fun h => hAB (by rw [hA1, hB1]; exact h.2)
          have HM := hide (show OW base g n cap (We.P 5 s zs e1) w0 w1 from by rw [We.P_miss HSS.out hE.out hH]; exact hO2.out)
          have hA0 : A = false := Bool.eq_false_iff.2 (fun h => hAB (.inl h))
          have hB0 : B = false := Bool.eq_false_iff.2 (fun h => hAB (.inr h))
          clear hA1 hB1 h6 hH hO2 HSS hAB
          subst hA0 hB0
          go_wp2_with fail
          refine HA2.out.mono ?_
          rintro e w2 ⟨rfl, rfl⟩
          go_wp2_with fail
          refine HB2.out.mono ?_
          rintro e w2 ⟨rfl, rfl⟩
          clear HA2 HB2
          go_wp2
          go_roundw
          case rel => exact ⟨e1, by go_num, by omega, HED, HM⟩
          case measure => simp [intOf]; omega
      · have hH : ¬ We.Hit zs f e1 := fun h => h6 h.1
        have HM := hide (show OW base g n cap (We.P 5 s zs e1) w0 w1 from by rw [We.P_miss HSS.out hE.out hH]; exact hO2.out)
        have e6 : (zs.getD f 0 == 6) = false := beq_false_of_ne h6
        generalize zs.getD f 0 = x at *
        clear hH h6 hO2 HSS
        go_wp2
        go_roundw
        case rel => exact ⟨e1, by go_num, by omega, HED, HM⟩
        case measure => simp [intOf]; omega
    · obtain rfl : f = n := by omega
      have hne : ¬ ((f : Int) < (f : Int)) := by omega
      rw [HE.out] at hO
      clear hlt
      go_wp2
      go_end0
      exact ⟨rfl, hO.out⟩
end Go.Proofs.YtmdmehopefgndaaGreatDoor
