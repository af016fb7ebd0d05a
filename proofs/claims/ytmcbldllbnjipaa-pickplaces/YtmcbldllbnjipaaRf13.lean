/- The document's visual order, by contract. -/
import Derived.Test.YtmcbldllbnjipaaOp
import Derived.Test.YtmcbldllbnjipaaOo
import Derived.Test.YtmcbldllbnjipaaNew
namespace Go.Proofs.Ytmcbldllbnjipaa
open Go.RowKit
set_option linter.unusedVariables false
set_option maxHeartbeats 1000000
set_option maxRecDepth 100000
namespace Od
theorem ls_step {lv : List Int} {i k : Nat} (h : i ≤ k) : ls lv i (k + 1 - 1 - i) = if 0 ≤ lv.getD k 0 ∧ lv.getD k 0 < ls lv i (k - 1 - i) then lv.getD k 0 else ls lv i (k - 1 - i) := by
  by_cases e : k = i
  · subst e
    rw [show k + 1 - 1 - k = 0 by omega, show k - 1 - k = 0 by omega, ls]
    rw [if_neg (by omega)]
  · obtain ⟨d, rfl⟩ : ∃ d, k = i + (d + 1) := ⟨k - 1 - i, by omega⟩
    rw [show i + (d + 1) + 1 - 1 - i = d + 1 by omega, show i + (d + 1) - 1 - i = d by omega, ls]
theorem cnt_same {lv : List Int} {i k : Nat} (h : ¬ (sn lv k = true ∧ Lf lv k i)) : cnt lv i (k + 1) = cnt lv i k := by rw [cnt, if_neg h]
theorem cnt_more {lv : List Int} {i k : Nat} (h : sn lv k = true ∧ Lf lv k i) : cnt lv i (k + 1) = cnt lv i k + 1 := by rw [cnt, if_pos h]
theorem cnt_le (lv : List Int) (i : Nat) : ∀ k, cnt lv i k ≤ k
  | 0 => Nat.le_refl _
  | k + 1 => by
    have := cnt_le lv i k
    rw [cnt]
    split <;> omega
theorem Lf_self {lv : List Int} {i : Nat} : ¬ Lf lv i i := fun h => Lf_asymm h h
theorem Lf_up {lv : List Int} {i j : Nat} (h : i < j) : Lf lv i j ↔ le lv i j % 2 = 0 := by
  unfold Lf
  by_cases hp : le lv i j % 2 = 0
  · rw [if_pos hp]; exact ⟨fun _ => hp, fun _ => h⟩
  · rw [if_neg hp]; exact ⟨fun q => by omega, fun q => absurd q hp⟩
theorem Lf_down {lv : List Int} {i j : Nat} (h : j < i) : Lf lv i j ↔ ¬ le lv j i % 2 = 0 := by
  unfold Lf
  rw [le_comm i j]
  by_cases hp : le lv j i % 2 = 0
  · rw [if_pos hp]; exact ⟨fun q => by omega, fun q => absurd hp q⟩
  · rw [if_neg hp]; exact ⟨fun _ => hp, fun _ => h⟩
end Od
theorem orformed_any (ao : Option Addr) (n cap : Nat) (l : List Int) (w : World) (h : Row .i64 w ao n cap l) :
    Calls Try.prog 28 #[.slice ao n cap] w fun e w' => e = .returned (.bool (decide (Od.Fo l))) ∧ w = w' := by
  have hmx : n ≤ maxLen := Nat.le_trans h.le h.max
  unfold maxLen at hmx
  have H := hide h
  have HL := hide h.len
  clear h
  go_enter Try.func28, Try.ntmps28
  go_wp2
  go_loopw [3] (fun i wr => ∃ k : Nat, k ≤ n ∧ i = .int .i64 (k : Int) ∧ Hid (∀ j, j < k → -1 ≤ l.getD j 0 ∧ l.getD j 0 ≤ 127) ∧ wr = w) (fun i _ => n - (intOf i).toNat)
  case atStart => exact ⟨0, Nat.zero_le _, rfl, hide (fun j hj => absurd hj (Nat.not_lt_zero _)), rfl⟩
  case round =>
    obtain ⟨k, hk, rfl, hall, rfl⟩ := hrel
    by_cases hlt : k < n
    · obtain ⟨b, off, rfl, hbl, hc⟩ := H.out.cells (by omega)
      have hkl : k < l.length := by rw [HL.out]; exact hlt
      have ck := hc k hkl
      have HX : Hid (∀ x, l.getD k 0 = x → (-1 ≤ x ∧ x ≤ 127) → ∀ j, j < k + 1 → -1 ≤ l.getD j 0 ∧ l.getD j 0 ≤ 127) := hide (fun x hx hr j hj => by
        by_cases e : j = k
        · subst e; rw [hx]; exact hr
        · exact hall.out j (by omega))
      have HN : Hid (∀ x, l.getD k 0 = x → ¬ (-1 ≤ x ∧ x ≤ 127) → decide (Od.Fo l) = false) := hide (fun x hx hr => decide_eq_false (fun q => hr (by rw [← hx]; exact q k hkl)))
      have hin : (k : Int) < (n : Int) := by omega
      clear hc hall
      generalize hx : l.getD k 0 = x at ck
      have HX2 := hide (HX.out x hx)
      have HN2 := hide (HN.out x hx)
      clear HX HN hx
      by_cases h1 : x < -1
      · have HN3 := hide (HN2.out (by omega))
        go_wp2
        go_ret
        exact ⟨ret_bool HN3.out.symm, rfl⟩
      · by_cases h2 : 127 < x
        · have HN3 := hide (HN2.out (by omega))
          go_wp2
          go_ret
          exact ⟨ret_bool HN3.out.symm, rfl⟩
        · have HX3 := hide (HX2.out ⟨by omega, by omega⟩)
          go_wp2
          go_roundw
          case rel => exact ⟨k + 1, by omega, by go_num, HX3, by first | rfl | trivial⟩
          case measure => simp [intOf]; omega
    · obtain rfl : k = n := by omega
      have hne : ¬ ((k : Int) < (k : Int)) := by omega
      have HF : Hid (decide (Od.Fo l) = true) := hide (decide_eq_true (fun i hi => hall.out i (by rw [HL.out] at hi; exact hi)))
      clear hall
      go_wp2
      go_ret
      exact ⟨ret_bool HF.out.symm, rfl⟩
theorem rleft_up (ao : Option Addr) (n cap i j : Nat) (l : List Int) (w : World) (h : Row .i64 w ao n cap l) (hij : i ≤ j) (hj : j < n) (hi0 : 0 ≤ l.getD i 0) (hj0 : 0 ≤ l.getD j 0) :
    Calls Try.prog 29 #[.slice ao n cap, .int .i64 (i : Int), .int .i64 (j : Int)] w fun e w' => e = .returned (.bool (decide (Od.le l i j % 2 = 0))) ∧ w = w' := by
  have hmx : n ≤ maxLen := Nat.le_trans h.le h.max
  unfold maxLen at hmx
  have HE : Hid (Od.ls l i (j + 1 - 1 - i) = Od.le l i j) := hide (by unfold Od.le; rw [if_pos hij, Nat.add_sub_cancel])
  have HP : Hid (0 ≤ Od.le l i j) := hide (Od.le_ge hi0 hj0 fun z _ q => q)
  have HL := hide h.len
  obtain ⟨b, off, rfl, hbl, hc⟩ := h.cells (by omega)
  have hle1 := h.le
  have HC := hide hc
  have ci := hc i (by rw [h.len]; omega)
  have hin0 : (i : Int) < (n : Int) := by omega
  have hng : ¬ (j : Int) < (i : Int) := by omega
  have HS : Hid (Od.ls l i (i - 1 - i) = l.getD i 0) := hide (by rw [show i - 1 - i = 0 by omega, Od.ls])
  clear h hc hi0 hj0
  generalize hx0 : l.getD i 0 = x0 at ci
  rw [hx0] at HS
  clear hx0
  go_enter Try.func29, Try.ntmps29
  go_wp2
  go_loopw [7, 8] (fun s7 s8 W => ∃ (k : Nat) (y : Int), s8 = .int .i64 (k : Int) ∧ i ≤ k ∧ k ≤ j + 1 ∧ s7 = .int .i64 y ∧ Hid (Od.ls l i (k - 1 - i) = y) ∧ w = W) (fun _ s8 _ => j + 1 - (intOf s8).toNat)
  case atStart => exact ⟨i, x0, rfl, Nat.le_refl _, by omega, rfl, HS, rfl⟩
  case round =>
    obtain ⟨k, y, rfl, hik, hkj, rfl, hy, rfl⟩ := hrel
    by_cases hlt : k ≤ j
    · have ck := HC.out k (by rw [HL.out]; omega)
      have hst := Od.ls_step (lv := l) hik
      rw [hy.out] at hst
      have hin : (k : Int) < (n : Int) := by omega
      have hle2 : (k : Int) ≤ (j : Int) := by omega
      clear ci
      generalize l.getD k 0 = x at ck hst
      by_cases h1 : 0 ≤ x
      · by_cases h2 : x < y
        · rw [if_pos ⟨h1, h2⟩] at hst
          have HY := hide hst
          clear hst hy
          go_wp2
          go_roundw
          case rel => exact ⟨k + 1, x, by go_num, by omega, by omega, rfl, HY, by first | rfl | trivial⟩
          case measure => simp [intOf]; omega
        · rw [if_neg (fun q => h2 q.2)] at hst
          have HY := hide hst
          clear hst hy
          go_wp2
          go_roundw
          case rel => exact ⟨k + 1, y, by go_num, by omega, by omega, rfl, HY, by first | rfl | trivial⟩
          case measure => simp [intOf]; omega
      · rw [if_neg (fun q => h1 q.1)] at hst
        have HY := hide hst
        clear hst hy
        go_wp2
        go_roundw
        case rel => exact ⟨k + 1, y, by go_num, by omega, by omega, rfl, HY, by first | rfl | trivial⟩
        case measure => simp [intOf]; omega
    · obtain rfl : k = j + 1 := by omega
      have hle2 : ¬ ((j + 1 : Nat) : Int) ≤ (j : Int) := by omega
      have hy2 := hy.out
      rw [HE.out] at hy2
      have hp := HP.out
      rw [hy2] at hp
      have ht : y.tmod 2 = y % 2 := Int.tmod_eq_emod_of_nonneg hp
      have HR : Hid ((y % 2 == 0) = decide (Od.le l i j % 2 = 0)) := hide (by rw [hy2, Bool.eq_iff_iff]; simp)
      clear hy hy2 hp ci
      go_wp2
      go_ret
      exact ⟨ret_bool HR.out, rfl⟩
theorem rleft_any (ao : Option Addr) (n cap i j : Nat) (l : List Int) (w : World) (h : Row .i64 w ao n cap l) (hij : ¬ i = j) (hi : i < n) (hj : j < n) (hi0 : 0 ≤ l.getD i 0) (hj0 : 0 ≤ l.getD j 0) :
    Calls Try.prog 29 #[.slice ao n cap, .int .i64 (i : Int), .int .i64 (j : Int)] w fun e w' => e = .returned (.bool (decide (Od.Lf l i j))) ∧ w = w' := by
  by_cases hlt : i < j
  · refine (rleft_up ao n cap i j l w h (by omega) hj hi0 hj0).mono ?_
    rintro e w' ⟨rfl, rfl⟩
    refine ⟨ret_bool ?_, rfl⟩
    rw [decide_eq_decide]
    exact (Od.Lf_up hlt).symm
  · have HA := hide (rleft_up ao n cap j i l w h (by omega) hi hj0 hi0)
    have hgt : (j : Int) < (i : Int) := by omega
    have HR : Hid ((!decide (Od.le l j i % 2 = 0)) = decide (Od.Lf l i j)) := hide (by
      rw [← decide_not, decide_eq_decide]
      exact (Od.Lf_down (by omega)).symm)
    clear h hi0 hj0
    generalize decide (Od.le l j i % 2 = 0) = bb at *
    generalize decide (Od.Lf l i j) = cc at *
    go_enter Try.func29, Try.ntmps29
    go_wp2_with (go_at_call 29; refine HA.out.mono ?_; rintro e w' ⟨rfl, rfl⟩)
    go_ret
    exact ⟨ret_bool HR.out, rfl⟩
end Go.Proofs.Ytmcbldllbnjipaa
