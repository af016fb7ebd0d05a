/- Rules 1, 2, 3, 6, 7: marks, numbers, arabicNumbers, arabicLetters, leftovers, latinNumbers. -/
import Derived.Test.YtkajiagflcflpaaWa
namespace Go.Proofs.Ytkajiagflcflpaa
open Go.RowKit
set_option linter.unusedVariables false
set_option maxHeartbeats 1000000
set_option maxRecDepth 100000
theorem OW.next {base g n cap r : Nat} {s : Int} {zs : List Int} {w0 w : World} {k : Nat} (h : OW base g n cap (We.P r s zs k) w0 w) (hk : k < zs.length) {y : Int} (hy : We.pv r s zs (k + 1) = y) : OW base g n cap (We.P r s zs (k + 1)) w0 (w.setCell ⟨g, k, none⟩ (.int .i64 y)) := by
  have := h.set k y
  rw [← hy, ← We.P_set hk] at this
  rw [← hy]; exact this
theorem OW.stay {base g n cap r : Nat} {s : Int} {zs : List Int} {w0 w : World} {k : Nat} (h : OW base g n cap (We.P r s zs k) w0 w) (hy : We.pv r s zs (k + 1) = zs.getD k 0) : OW base g n cap (We.P r s zs (k + 1)) w0 w := by
  rw [We.P_same hy]; exact h
theorem pv1 (s : Int) (t : List Int) (k : Nat) : We.pv 1 s t (k + 1) = if t.getD k 0 = 9 then We.mk (We.pv 1 s t k) else t.getD k 0 := rfl
theorem pv2 (s : Int) (t : List Int) (k : Nat) : We.pv 2 s t (k + 1) = if t.getD k 0 = 4 ∧ We.strong t s k = 3 then 7 else t.getD k 0 := rfl
theorem pv3 (s : Int) (t : List Int) (k : Nat) : We.pv 3 s t (k + 1) = if t.getD k 0 = 3 then 2 else t.getD k 0 := rfl
theorem pv6 (s : Int) (t : List Int) (k : Nat) : We.pv 6 s t (k + 1) = if t.getD k 0 = 5 ∨ t.getD k 0 = 6 ∨ t.getD k 0 = 8 then 14 else t.getD k 0 := rfl
theorem pv7 (s : Int) (t : List Int) (k : Nat) : We.pv 7 s t (k + 1) = if t.getD k 0 = 4 ∧ We.strong t s k = 1 then 1 else t.getD k 0 := rfl
theorem strong_succ (s : Int) (t : List Int) (k : Nat) : We.strong t s (k + 1) = if t.getD k 0 = 1 ∨ t.getD k 0 = 2 ∨ t.getD k 0 = 3 then t.getD k 0 else We.strong t s k := rfl
/-- What a walk is told of a place that it comes to. -/
theorem marks_any (base g n cap : Nat) (s : Int) (zs : List Int) (w0 w : World) (h : OW base g n cap zs w0 w) (hn : n ≤ 17592186044416) :
    Calls Try.prog 19 #[.slice (some ⟨g, 0, none⟩) n cap, .int .i64 s] w fun e w' => e = .returned (.tuple #[]) ∧ OW base g n cap (We.R 1 s zs) w0 w' := by
  have HL := hide h.len
  have H0 := hide (show OW base g n cap (We.P 1 s zs 0) w0 w from by rw [We.P_zero]; exact h)
  have HE := hide (show We.P 1 s zs n = We.R 1 s zs from We.P_end (by rw [h.len]; exact Nat.le_refl _))
  clear h
  go_enter Try.func19, Try.ntmps19
  go_wp2
  go_loopw [4, 10] (fun v4 v wr => ∃ k : Nat, v = .int .i64 (k : Int) ∧ k ≤ n ∧ v4 = .int .i64 (We.pv 1 s zs k) ∧ Hid (OW base g n cap (We.P 1 s zs k) w0 wr)) (fun _ v _ => n - (intOf v).toNat)
  case atStart => exact ⟨0, rfl, Nat.zero_le _, rfl, H0⟩
  case round =>
    obtain ⟨k, rfl, hk, rfl, hO⟩ := hrel
    by_cases hlt : k < n
    · have hin : (k : Int) < (n : Int) := by omega
      have hkl : k < zs.length := by rw [HL.out]; exact hlt
      have co := hO.out.cell hlt
      rw [We.P_here hkl (Nat.le_refl _)] at co
      have hfz := hO.out.own.frozenAt k
      have HP := hide (pv1 s zs k)
      have HN := hide (fun (y : Int) => hO.out.next (y := y) hkl)
      have HT := hide hO.out.stay
      have HM := hide (fun w' => markBehind_any (We.pv 1 s zs k) w')
      obtain ⟨A, hA⟩ : ∃ A, We.pv 1 s zs k = A := ⟨_, rfl⟩
      rw [hA] at HP HM ⊢
      obtain ⟨x, hx⟩ : ∃ x, zs.getD k 0 = x := ⟨_, rfl⟩
      rw [hx] at HP HT co
      clear hO hA hx hkl
      by_cases h9 : x = 9
      · have hp := HP.out
        rw [if_pos h9] at hp
        have HS := hide (HN.out _ hp)
        have HV := hide hp
        clear hp HP HN HT
        generalize We.mk A = y at *
        subst h9
        go_wp2_with (go_at_call 29; refine (HM.out _).mono ?_; rintro e w' ⟨rfl, rfl⟩)
        go_roundw
        case rel => exact ⟨k + 1, by go_num, by omega, by rw [HV.out], HS⟩
        case measure => simp [intOf]; omega
      · have hp := HP.out
        rw [if_neg h9] at hp
        have HS := hide (HT.out hp)
        have HV := hide hp
        have h9' : (x == 9) = false := beq_false_of_ne h9
        clear hp HP HN HT h9 HM
        go_wp2
        go_roundw
        case rel => exact ⟨k + 1, by go_num, by omega, by rw [HV.out], HS⟩
        case measure => simp [intOf]; omega
    · obtain rfl : k = n := by omega
      have hne : ¬ ((k : Int) < (k : Int)) := by omega
      rw [HE.out] at hO
      clear hlt
      go_wp2
      go_end0
      exact ⟨rfl, hO.out⟩
theorem arabicLetters_any (base g n cap : Nat) (s : Int) (zs : List Int) (w0 w : World) (h : OW base g n cap zs w0 w) (hn : n ≤ 17592186044416) :
    Calls Try.prog 21 #[.slice (some ⟨g, 0, none⟩) n cap, .int .i64 s] w fun e w' => e = .returned (.tuple #[]) ∧ OW base g n cap (We.R 3 s zs) w0 w' := by
  have HL := hide h.len
  have H0 := hide (show OW base g n cap (We.P 3 s zs 0) w0 w from by rw [We.P_zero]; exact h)
  have HE := hide (show We.P 3 s zs n = We.R 3 s zs from We.P_end (by rw [h.len]; exact Nat.le_refl _))
  clear h
  go_enter Try.func21, Try.ntmps21
  go_wp2
  go_loopw [8] (fun v wr => ∃ k : Nat, v = .int .i64 (k : Int) ∧ k ≤ n ∧ Hid (OW base g n cap (We.P 3 s zs k) w0 wr)) (fun v _ => n - (intOf v).toNat)
  case atStart => exact ⟨0, rfl, Nat.zero_le _, H0⟩
  case round =>
    obtain ⟨k, rfl, hk, hO⟩ := hrel
    by_cases hlt : k < n
    · have hin : (k : Int) < (n : Int) := by omega
      have hkl : k < zs.length := by rw [HL.out]; exact hlt
      have co := hO.out.cell hlt
      rw [We.P_here hkl (Nat.le_refl _)] at co
      have hfz := hO.out.own.frozenAt k
      have HP := hide (pv3 s zs k)
      have HN := hide (fun (y : Int) => hO.out.next (y := y) hkl)
      have HT := hide hO.out.stay
      obtain ⟨x, hx⟩ : ∃ x, zs.getD k 0 = x := ⟨_, rfl⟩
      rw [hx] at HP HT co
      clear hO hx hkl
      by_cases h9 : x = 3
      · have hp := HP.out
        rw [if_pos h9] at hp
        have HS := hide (HN.out _ hp)
        clear hp HP HN HT
        subst h9
        go_wp2
        go_roundw
        case rel => exact ⟨k + 1, by go_num, by omega, HS⟩
        case measure => simp [intOf]; omega
      · have hp := HP.out
        rw [if_neg h9] at hp
        have HS := hide (HT.out hp)
        have h9' : (x == 3) = false := beq_false_of_ne h9
        clear hp HP HN HT h9
        go_wp2
        go_roundw
        case rel => exact ⟨k + 1, by go_num, by omega, HS⟩
        case measure => simp [intOf]; omega
    · obtain rfl : k = n := by omega
      have hne : ¬ ((k : Int) < (k : Int)) := by omega
      rw [HE.out] at hO
      clear hlt
      go_wp2
      go_end0
      exact ⟨rfl, hO.out⟩
theorem leftovers_any (base g n cap : Nat) (s : Int) (zs : List Int) (w0 w : World) (h : OW base g n cap zs w0 w) (hn : n ≤ 17592186044416) :
    Calls Try.prog 24 #[.slice (some ⟨g, 0, none⟩) n cap, .int .i64 s] w fun e w' => e = .returned (.tuple #[]) ∧ OW base g n cap (We.R 6 s zs) w0 w' := by
  have HL := hide h.len
  have H0 := hide (show OW base g n cap (We.P 6 s zs 0) w0 w from by rw [We.P_zero]; exact h)
  have HE := hide (show We.P 6 s zs n = We.R 6 s zs from We.P_end (by rw [h.len]; exact Nat.le_refl _))
  clear h
  go_enter Try.func24, Try.ntmps24
  go_wp2
  go_loopw [8] (fun v wr => ∃ k : Nat, v = .int .i64 (k : Int) ∧ k ≤ n ∧ Hid (OW base g n cap (We.P 6 s zs k) w0 wr)) (fun v _ => n - (intOf v).toNat)
  case atStart => exact ⟨0, rfl, Nat.zero_le _, H0⟩
  case round =>
    obtain ⟨k, rfl, hk, hO⟩ := hrel
    by_cases hlt : k < n
    · have hin : (k : Int) < (n : Int) := by omega
      have hkl : k < zs.length := by rw [HL.out]; exact hlt
      have co := hO.out.cell hlt
      rw [We.P_here hkl (Nat.le_refl _)] at co
      have hfz := hO.out.own.frozenAt k
      have HP := hide (pv6 s zs k)
      have HN := hide (fun (y : Int) => hO.out.next (y := y) hkl)
      have HT := hide hO.out.stay
      obtain ⟨x, hx⟩ : ∃ x, zs.getD k 0 = x := ⟨_, rfl⟩
      rw [hx] at HP HT co
      clear hO hx hkl
      have hc : (x = 5 ∨ (¬ x = 5 ∧ x = 6) ∨ (¬ x = 5 ∧ ¬ x = 6 ∧ x = 8)) ∨ (¬ x = 5 ∧ ¬ x = 6 ∧ ¬ x = 8) := by omega
      rcases hc with h9 | ⟨h5, h6, h8⟩
      · have hp := HP.out
        rw [if_pos (by omega)] at hp
        have HS := hide (HN.out _ hp)
        clear hp HP HN HT
        rcases h9 with rfl | ⟨h5, rfl⟩ | ⟨h5, h6, rfl⟩
        all_goals
          go_wp2
          go_roundw
          case rel => exact ⟨k + 1, by go_num, by omega, HS⟩
          case measure => simp [intOf]; omega
      · have hp := HP.out
        rw [if_neg (by omega)] at hp
        have HS := hide (HT.out hp)
        have e5 : (x == 5) = false := beq_false_of_ne h5
        have e6 : (x == 6) = false := beq_false_of_ne h6
        have e8 : (x == 8) = false := beq_false_of_ne h8
        clear hp HP HN HT h5 h6 h8
        go_wp2
        go_roundw
        case rel => exact ⟨k + 1, by go_num, by omega, HS⟩
        case measure => simp [intOf]; omega
    · obtain rfl : k = n := by omega
      have hne : ¬ ((k : Int) < (k : Int)) := by omega
      rw [HE.out] at hO
      clear hlt
      go_wp2
      go_end0
      exact ⟨rfl, hO.out⟩
/-- Rules 2 and 7. -/
def Num (r : Nat) (st ot : Int) : Prop := ∀ s t k, We.pv r s t (k + 1) = if t.getD k 0 = 4 ∧ We.strong t s k = st then ot else t.getD k 0
theorem numbers_any (r : Nat) (st ot : Int) (hr : Num r st ot) (base g n cap : Nat) (s : Int) (zs : List Int) (w0 w : World) (h : OW base g n cap zs w0 w) (hn : n ≤ 17592186044416) :
    Calls Try.prog 30 #[.slice (some ⟨g, 0, none⟩) n cap, .int .i64 s, .int .i64 st, .int .i64 ot] w fun e w' => e = .returned (.tuple #[]) ∧ OW base g n cap (We.R r s zs) w0 w' := by
  have HL := hide h.len
  have H0 := hide (show OW base g n cap (We.P r s zs 0) w0 w from by rw [We.P_zero]; exact h)
  have HE := hide (show We.P r s zs n = We.R r s zs from We.P_end (by rw [h.len]; exact Nat.le_refl _))
  have HR := hide hr
  clear h hr
  go_enter Try.func30, Try.ntmps30
  go_wp2
  go_loopw [8, 14] (fun v8 v wr => ∃ k : Nat, v = .int .i64 (k : Int) ∧ k ≤ n ∧ v8 = .int .i64 (We.strong zs s k) ∧ Hid (OW base g n cap (We.P r s zs k) w0 wr)) (fun _ v _ => n - (intOf v).toNat)
  case atStart => exact ⟨0, rfl, Nat.zero_le _, rfl, H0⟩
  case round =>
    obtain ⟨k, rfl, hk, rfl, hO⟩ := hrel
    by_cases hlt : k < n
    · have hin : (k : Int) < (n : Int) := by omega
      have hkl : k < zs.length := by rw [HL.out]; exact hlt
      have co := hO.out.cell hlt
      rw [We.P_here hkl (Nat.le_refl _)] at co
      have hfz := hO.out.own.frozenAt k
      have HP := hide (HR.out s zs k)
      have HG := hide (strong_succ s zs k)
      have HN := hide (fun (y : Int) => hO.out.next (y := y) hkl)
      have HT := hide hO.out.stay
      obtain ⟨A, hA⟩ : ∃ A, We.strong zs s k = A := ⟨_, rfl⟩
      rw [hA] at HP HG ⊢
      obtain ⟨x, hx⟩ : ∃ x, zs.getD k 0 = x := ⟨_, rfl⟩
      rw [hx] at HP HT HG co
      clear hO hA hx hkl
      have hc : (x = 1 ∨ (¬ x = 1 ∧ x = 2) ∨ (¬ x = 1 ∧ ¬ x = 2 ∧ x = 3)) ∨ (¬ x = 1 ∧ ¬ x = 2 ∧ ¬ x = 3) := by omega
      rcases hc with h9 | ⟨h1, h2, h3⟩
      · have hp := HP.out
        rw [if_neg (by omega)] at hp
        have hg := HG.out
        rw [if_pos (by omega)] at hg
        have HS := hide (HT.out hp)
        have HV := hide hg
        clear hp hg HP HN HT HG
        rcases h9 with rfl | ⟨h1, rfl⟩ | ⟨h1, h2, rfl⟩
        all_goals
          go_wp2
          go_roundw
          case rel => exact ⟨k + 1, by go_num, by omega, by rw [HV.out], HS⟩
          case measure => simp [intOf]; omega
      · have hg := HG.out
        rw [if_neg (by omega)] at hg
        have HV := hide hg
        have e1 : (x == 1) = false := beq_false_of_ne h1
        have e2 : (x == 2) = false := beq_false_of_ne h2
        have e3 : (x == 3) = false := beq_false_of_ne h3
        clear hg HG h1 h2 h3
        by_cases h4 : x = 4
        · by_cases hs : A = st
          · have hp := HP.out
            rw [if_pos ⟨h4, hs⟩] at hp
            have HS := hide (HN.out _ hp)
            clear hp HP HN HT e1 e2 e3
            subst h4 hs
            go_wp2
            go_roundw
            case rel => exact ⟨k + 1, by go_num, by omega, by rw [HV.out], HS⟩
            case measure => simp [intOf]; omega
          · have hp := HP.out
            rw [if_neg (fun h => hs h.2)] at hp
            have HS := hide (HT.out hp)
            have es : (A == st) = false := beq_false_of_ne hs
            clear hp HP HN HT e1 e2 e3 hs
            subst h4
            go_wp2
            go_roundw
            case rel => exact ⟨k + 1, by go_num, by omega, by rw [HV.out], HS⟩
            case measure => simp [intOf]; omega
        · have hp := HP.out
          rw [if_neg (fun h => h4 h.1)] at hp
          have HS := hide (HT.out hp)
          have e4 : (x == 4) = false := beq_false_of_ne h4
          clear hp HP HN HT h4
          go_wp2
          go_roundw
          case rel => exact ⟨k + 1, by go_num, by omega, by rw [HV.out], HS⟩
          case measure => simp [intOf]; omega
    · obtain rfl : k = n := by omega
      have hne : ¬ ((k : Int) < (k : Int)) := by omega
      rw [HE.out] at hO
      clear hlt
      go_wp2
      go_end0
      exact ⟨rfl, hO.out⟩
theorem arabicNumbers_any (base g n cap : Nat) (s : Int) (zs : List Int) (w0 w : World) (h : OW base g n cap zs w0 w) (hn : n ≤ 17592186044416) :
    Calls Try.prog 20 #[.slice (some ⟨g, 0, none⟩) n cap, .int .i64 s] w fun e w' => e = .returned (.tuple #[]) ∧ OW base g n cap (We.R 2 s zs) w0 w' := by
  have HN := hide (numbers_any 2 3 7 (fun _ _ _ => rfl) base g n cap s zs w0 w h hn)
  clear h
  go_enter Try.func20, Try.ntmps20
  go_wp2_with (go_at_call 30; refine HN.out.mono ?_; rintro e w' ⟨rfl, hO⟩)
  go_end0
  exact ⟨rfl, hO⟩
theorem latinNumbers_any (base g n cap : Nat) (s : Int) (zs : List Int) (w0 w : World) (h : OW base g n cap zs w0 w) (hn : n ≤ 17592186044416) :
    Calls Try.prog 25 #[.slice (some ⟨g, 0, none⟩) n cap, .int .i64 s] w fun e w' => e = .returned (.tuple #[]) ∧ OW base g n cap (We.R 7 s zs) w0 w' := by
  have HN := hide (numbers_any 7 1 1 (fun _ _ _ => rfl) base g n cap s zs w0 w h hn)
  clear h
  go_enter Try.func25, Try.ntmps25
  go_wp2_with (go_at_call 30; refine HN.out.mono ?_; rintro e w' ⟨rfl, hO⟩)
  go_end0
  exact ⟨rfl, hO⟩
end Go.Proofs.Ytkajiagflcflpaa
