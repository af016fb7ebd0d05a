/- The document's answer (colophonref09), its small functions: Wrong, strong, edge. -/
import Derived.Test.YtkajiagflcflpaaWorks9
namespace Go.Proofs.Ytkajiagflcflpaa
open Go.RowKit
set_option linter.unusedVariables false
set_option maxHeartbeats 1000000
set_option maxRecDepth 100000
def rmv (x : Int) : Prop := x = 17 ∨ x = 15 ∨ x = 18 ∨ x = 16 ∨ x = 19 ∨ x = 10
theorem removed9_yes (x : Int) (w : World) (h : rmv x) : Calls Try.prog 27 #[.int .i64 x] w fun e w' => e = .returned (.bool true) ∧ w = w' := by
  unfold rmv at h
  rcases h with rfl | rfl | rfl | rfl | rfl | rfl
  all_goals
    go_enter Try.func27, Try.ntmps27
    go_wp2
    go_ret
    exact ⟨rfl, rfl⟩
theorem removed9_no (x : Int) (w : World) (h : ¬ rmv x) : Calls Try.prog 27 #[.int .i64 x] w fun e w' => e = .returned (.bool false) ∧ w = w' := by
  unfold rmv at h
  have h1 : (x == 17) = false := beq_false_of_ne (by omega)
  have h2 : (x == 15) = false := beq_false_of_ne (by omega)
  have h3 : (x == 18) = false := beq_false_of_ne (by omega)
  have h4 : (x == 16) = false := beq_false_of_ne (by omega)
  have h5 : (x == 19) = false := beq_false_of_ne (by omega)
  have h6 : (x == 10) = false := beq_false_of_ne (by omega)
  clear h
  go_enter Try.func27, Try.ntmps27
  go_wp2
  go_ret
  exact ⟨rfl, rfl⟩
theorem rwrong_side (ao : Option Addr) (n cap : Nat) (s : Int) (w : World) (hs : ¬ We.Side s) :
    Calls Try.prog 17 #[.slice ao n cap, .int .i64 s] w fun e w' => e = .returned (.int .i64 2) ∧ w = w' := by
  have h1 : (s != 1) = true := bne_iff_ne.2 (fun h => hs (.inl h))
  have h2 : (s != 2) = true := bne_iff_ne.2 (fun h => hs (.inr h))
  clear hs
  go_enter Try.func17, Try.ntmps17
  go_wp2
  go_ret
  exact ⟨rfl, rfl⟩
theorem may_cases (x : Int) : (¬ We.May x ∧ x < 1) ∨ (¬ We.May x ∧ ¬ x < 1 ∧ 23 < x) ∨ (¬ We.May x ∧ ¬ x < 1 ∧ ¬ 23 < x ∧ rmv x) ∨ (We.May x ∧ ¬ x < 1 ∧ ¬ 23 < x ∧ ¬ rmv x) := by
  unfold We.May rmv
  omega
theorem rwrong_any (ao : Option Addr) (n cap : Nat) (s : Int) (c : List Int) (w : World) (h : Row .i64 w ao n cap c) (hn : n ≤ 400) (hs : We.Side s) (R : Int) (hR : (We.Ok c ∧ R = 0) ∨ (¬ We.Ok c ∧ R = 50)) :
    Calls Try.prog 17 #[.slice ao n cap, .int .i64 s] w fun e w' => e = .returned (.int .i64 R) ∧ w = w' := by
  have H := hide h
  have HL := hide h.len
  have HR := hide hR
  clear h hR
  have hs' := side_tests hs
  clear hs
  rcases hs' with rfl | ⟨h1, rfl⟩
  all_goals
    go_enter Try.func17, Try.ntmps17
    go_wp2
    go_loopw [5] (fun v wr => ∃ k : Nat, v = .int .i64 (k : Int) ∧ k ≤ n ∧ Hid (∀ i, i < k → We.May (c.getD i 0)) ∧ w = wr) (fun v _ => n - (intOf v).toNat)
    case atStart => exact ⟨0, rfl, Nat.zero_le _, hide (fun i hi => by omega), rfl⟩
    case round =>
      obtain ⟨k, rfl, hk, hall, rfl⟩ := hrel
      by_cases hlt : k < n
      · obtain ⟨b, off, rfl, hbl, hc⟩ := H.out.cells (by omega)
        have ck : w.cell? ⟨b, off + k, none⟩ = some (.int .i64 (c.getD k 0)) := hc k (by rw [HL.out]; exact hlt)
        have hin : (k : Int) < (n : Int) := by omega
        have HBD := hide (fun (h : ¬ We.May (c.getD k 0)) => (show R = 50 from by
          rcases HR.out with ⟨h1, _⟩ | ⟨_, h1⟩
          · exact absurd (h1 k (by rw [HL.out]; exact hlt)) h
          · exact h1))
        have HN := hide (fun (h : We.May (c.getD k 0)) (i : Nat) (hi : i < k + 1) => (show We.May (c.getD i 0) from by
          by_cases hik : i = k
          · rw [hik]; exact h
          · exact hall.out i (by omega)))
        have HY := hide (fun w' h => removed9_yes (c.getD k 0) w' h)
        have HO := hide (fun w' h => removed9_no (c.getD k 0) w' h)
        have hcs := may_cases (c.getD k 0)
        generalize c.getD k 0 = x at *
        clear hc hall HR
        rcases hcs with ⟨hm, x1⟩ | ⟨hm, x1, x2⟩ | ⟨hm, x1, x2, x3⟩ | ⟨hm, x1, x2, x3⟩
        · have HE := hide (HBD.out hm)
          clear hm HBD HN HY HO
          go_wp2
          go_ret
          exact ⟨ret_int HE.out.symm, rfl⟩
        · have HE := hide (HBD.out hm)
          clear hm HBD HN HY HO
          go_wp2
          go_ret
          exact ⟨ret_int HE.out.symm, rfl⟩
        · have HE := hide (HBD.out hm)
          have HC := hide (HY.out w x3)
          clear hm HBD HN HY HO x3
          go_wp2_with (go_at_call 27; refine HC.out.mono ?_; rintro e w' ⟨rfl, rfl⟩)
          go_ret
          exact ⟨ret_int HE.out.symm, rfl⟩
        · have HA := hide (HN.out hm)
          have HC := hide (HO.out w x3)
          clear hm HBD HN HY HO x3
          go_wp2_with (go_at_call 27; refine HC.out.mono ?_; rintro e w' ⟨rfl, rfl⟩)
          go_roundw
          case rel => exact ⟨k + 1, by go_num, by omega, HA, trivial⟩
          case measure => simp [intOf]; omega
      · obtain rfl : k = n := by omega
        have hne : ¬ ((k : Int) < (k : Int)) := by omega
        have HE := hide (show R = 0 from by
          rcases HR.out with ⟨_, h1⟩ | ⟨h1, _⟩
          · exact h1
          · exact absurd (fun i hi => hall.out i (by rw [HL.out] at hi; omega)) h1)
        clear hlt hall HR
        go_wp2
        go_ret
        exact ⟨ret_int HE.out.symm, rfl⟩
theorem rstrong_any (ao : Option Addr) (n cap : Nat) (s : Int) (i : Nat) (c : List Int) (w : World) (h : Row .i64 w ao n cap c) (hn : n ≤ 400) (hi : i < n) :
    Calls Try.prog 35 #[.slice ao n cap, .int .i64 s, .int .i64 (i : Int)] w fun e w' => e = .returned (.int .i64 (We.strong c s i)) ∧ w = w' := by
  obtain ⟨b, off, rfl, hbl, hc⟩ := h.cells (by omega)
  have HC := hide (fun (j : Nat) (hj : j < n) => hc j (by rw [h.len]; exact hj))
  obtain ⟨R, hR⟩ : ∃ R, We.strong c s i = R := ⟨_, rfl⟩
  have HR := hide hR
  rw [hR]
  clear h hc hR
  go_enter Try.func35, Try.ntmps35
  go_wp2
  go_loopw [7] (fun v wr => ∃ k : Nat, v = .int .i64 ((k : Int) - 1) ∧ k ≤ i ∧ Hid (We.strong c s k = R) ∧ w = wr) (fun v _ => ((intOf v) + 1).toNat)
  case atStart => exact ⟨i, by go_num, Nat.le_refl _, HR, rfl⟩
  case round =>
    obtain ⟨k, rfl, hk, hst, rfl⟩ := hrel
    cases k with
    | zero =>
      have HE := hide (show s = R from hst.out)
      have hneg : ¬ (0 : Int) ≤ ((0 : Nat) : Int) - 1 := by omega
      clear hst
      go_wp2
      go_ret
      exact ⟨ret_int HE.out, rfl⟩
    | succ k =>
      have e1 : ((k + 1 : Nat) : Int) - 1 = (k : Int) := by omega
      have ck := HC.out k (by omega)
      have hin : (k : Int) < (n : Int) := by omega
      have hge : (0 : Int) ≤ (k : Int) := by omega
      have hs := hst.out
      rw [strong_succ] at hs
      have HS := hide hs
      clear hs hst
      rw [e1]
      clear e1
      generalize c.getD k 0 = x at *
      have hcs : ((x = 1 ∨ (¬ x = 1 ∧ x = 2) ∨ (¬ x = 1 ∧ ¬ x = 2 ∧ x = 3))) ∨ (¬ x = 1 ∧ ¬ x = 2 ∧ ¬ x = 3) := by omega
      rcases hcs with hx | ⟨x1, x2, x3⟩
      · have HE := hide (show x = R from by have := HS.out; rw [if_pos (by omega)] at this; exact this)
        clear HS
        rcases hx with rfl | ⟨x1, rfl⟩ | ⟨x1, x2, rfl⟩
        all_goals
          go_wp2
          go_ret
          exact ⟨ret_int HE.out, rfl⟩
      · have HE := hide (show We.strong c s k = R from by have := HS.out; rw [if_neg (by omega)] at this; exact this)
        have f1 : (x == 1) = false := beq_false_of_ne x1
        have f2 : (x == 2) = false := beq_false_of_ne x2
        have f3 : (x == 3) = false := beq_false_of_ne x3
        clear HS x1 x2 x3
        go_wp2
        go_roundw
        case rel => exact ⟨k, by go_num, by omega, HE, trivial⟩
        case measure => first | (simp [intOf]; done) | (simp [intOf]; omega)
theorem redge_left (ao : Option Addr) (n cap : Nat) (i : Nat) (c : List Int) (w : World) (h : Row .i64 w ao n cap c) (hn : n ≤ 400) (hi : i < n) :
    Calls Try.prog 36 #[.slice ao n cap, .int .i64 (i : Int), .int .i64 (-1)] w fun e w' => e = .returned (.int .i64 (We.lf c (i + 1))) ∧ w = w' := by
  obtain ⟨b, off, rfl, hbl, hc⟩ := h.cells (by omega)
  have HC := hide (fun (j : Nat) (hj : j < n) => hc j (by rw [h.len]; exact hj))
  obtain ⟨R, hR⟩ : ∃ R, We.lf c (i + 1) = R := ⟨_, rfl⟩
  have HR := hide hR
  rw [hR]
  clear h hc hR
  go_enter Try.func36, Try.ntmps36
  go_wp2
  go_loopw [1] (fun v wr => ∃ k : Nat, v = .int .i64 ((k : Int) - 1) ∧ k ≤ i + 1 ∧ Hid (We.lf c k = R) ∧ w = wr) (fun v _ => ((intOf v) + 1).toNat)
  case atStart => exact ⟨i + 1, by go_num, Nat.le_refl _, HR, rfl⟩
  case round =>
    obtain ⟨k, rfl, hk, hst, rfl⟩ := hrel
    cases k with
    | zero =>
      have HE := hide (show 0 = R from hst.out)
      have hneg : ¬ (0 : Int) ≤ ((0 : Nat) : Int) - 1 := by omega
      clear hst
      go_wp2
      go_ret
      exact ⟨ret_int HE.out, rfl⟩
    | succ k =>
      have e1 : ((k + 1 : Nat) : Int) - 1 = (k : Int) := by omega
      have ck := HC.out k (by omega)
      have hin : (k : Int) < (n : Int) := by omega
      have hge : (0 : Int) ≤ (k : Int) := by omega
      have hs : (if c.getD k 0 = 6 then We.lf c k else c.getD k 0) = R := hst.out
      have HS := hide hs
      clear hs hst
      rw [e1]
      clear e1
      generalize c.getD k 0 = x at *
      by_cases x6 : x = 6
      · have HE := hide (show We.lf c k = R from by have := HS.out; rw [if_pos x6] at this; exact this)
        clear HS
        subst x6
        go_wp2
        go_roundw
        case rel => exact ⟨k, by go_num, by omega, HE, trivial⟩
        case measure => simp [intOf]; omega
      · have HE := hide (show x = R from by have := HS.out; rw [if_neg x6] at this; exact this)
        have f6 : (x == 6) = false := beq_false_of_ne x6
        clear HS x6
        go_wp2
        go_ret
        exact ⟨ret_int HE.out, rfl⟩
theorem redge_right (ao : Option Addr) (n cap : Nat) (i : Nat) (c : List Int) (w : World) (h : Row .i64 w ao n cap c) (hn : n ≤ 400) (hi : i < n) :
    Calls Try.prog 36 #[.slice ao n cap, .int .i64 (i : Int), .int .i64 1] w fun e w' => e = .returned (.int .i64 (We.rt (c.drop i))) ∧ w = w' := by
  obtain ⟨b, off, rfl, hbl, hc⟩ := h.cells (by omega)
  have HL := hide h.len
  have HC := hide (fun (j : Nat) (hj : j < n) => hc j (by rw [h.len]; exact hj))
  obtain ⟨R, hR⟩ : ∃ R, We.rt (c.drop i) = R := ⟨_, rfl⟩
  have HR := hide hR
  rw [hR]
  clear h hc hR
  go_enter Try.func36, Try.ntmps36
  go_wp2
  go_loopw [1] (fun v wr => ∃ k : Nat, v = .int .i64 (k : Int) ∧ k ≤ n ∧ Hid (We.rt (c.drop k) = R) ∧ w = wr) (fun v _ => n - (intOf v).toNat)
  case atStart => exact ⟨i, rfl, by omega, HR, rfl⟩
  case round =>
    obtain ⟨k, rfl, hk, hst, rfl⟩ := hrel
    have hge : (0 : Int) ≤ (k : Int) := by omega
    by_cases hlt : k < n
    · have ck := HC.out k hlt
      have hin : (k : Int) < (n : Int) := by omega
      have hs : (if c.getD k 0 = 6 then We.rt (c.drop (k + 1)) else c.getD k 0) = R := by
        have := hst.out
        rw [We.drop_cons (show k < c.length by rw [HL.out]; exact hlt)] at this
        exact this
      have HS := hide hs
      clear hs hst
      generalize c.getD k 0 = x at *
      by_cases x6 : x = 6
      · have HE := hide (show We.rt (c.drop (k + 1)) = R from by have := HS.out; rw [if_pos x6] at this; exact this)
        clear HS
        subst x6
        go_wp2
        go_roundw
        case rel => exact ⟨k + 1, by go_num, by omega, HE, trivial⟩
        case measure => simp [intOf]; omega
      · have HE := hide (show x = R from by have := HS.out; rw [if_neg x6] at this; exact this)
        have f6 : (x == 6) = false := beq_false_of_ne x6
        have hnl : ¬ (n : Int) ≤ (k : Int) := by omega
        clear HS x6
        go_wp2
        go_ret
        exact ⟨ret_int HE.out, rfl⟩
    · obtain rfl : k = n := by omega
      have HE := hide (show 0 = R from by
        have := hst.out
        rw [List.drop_of_length_le (by rw [HL.out]; exact Nat.le_refl _)] at this
        exact this)
      have hne : ¬ ((k : Int) < (k : Int)) := by omega
      have hnn : ¬ (k : Int) < 0 := by omega
      clear hst hlt
      go_wp2
      go_ret
      exact ⟨ret_int HE.out, rfl⟩
end Go.Proofs.Ytkajiagflcflpaa
