/- The small functions of bracket: mayBe, levelSide, side, ahead, direction, give. -/
import Derived.Test.YtkkmifpdhcdkpaaDoorBp
import Derived.Test.YtkkmifpdhcdkpaaDoorOwn
namespace Go.Proofs.YtkkmifpdhcdkpaaDoor
open Go.RowKit
set_option linter.unusedVariables false
set_option maxHeartbeats 1000000
set_option maxRecDepth 100000
theorem may_cases (x : Int) : (x = 1) ∨ (¬ x = 1 ∧ x = 2) ∨ (¬ x = 1 ∧ ¬ x = 2 ∧ x = 4) ∨ (¬ x = 1 ∧ ¬ x = 2 ∧ ¬ x = 4 ∧ x = 7) ∨ (¬ x = 1 ∧ ¬ x = 2 ∧ ¬ x = 4 ∧ ¬ x = 7 ∧ x = 11) ∨ (¬ x = 1 ∧ ¬ x = 2 ∧ ¬ x = 4 ∧ ¬ x = 7 ∧ ¬ x = 11 ∧ x = 12) ∨ (¬ x = 1 ∧ ¬ x = 2 ∧ ¬ x = 4 ∧ ¬ x = 7 ∧ ¬ x = 11 ∧ ¬ x = 12 ∧ x = 13) ∨ (¬ x = 1 ∧ ¬ x = 2 ∧ ¬ x = 4 ∧ ¬ x = 7 ∧ ¬ x = 11 ∧ ¬ x = 12 ∧ ¬ x = 13 ∧ x = 14) ∨ (¬ x = 1 ∧ ¬ x = 2 ∧ ¬ x = 4 ∧ ¬ x = 7 ∧ ¬ x = 11 ∧ ¬ x = 12 ∧ ¬ x = 13 ∧ ¬ x = 14 ∧ x = 20) ∨ (¬ x = 1 ∧ ¬ x = 2 ∧ ¬ x = 4 ∧ ¬ x = 7 ∧ ¬ x = 11 ∧ ¬ x = 12 ∧ ¬ x = 13 ∧ ¬ x = 14 ∧ ¬ x = 20 ∧ x = 21) ∨ (¬ x = 1 ∧ ¬ x = 2 ∧ ¬ x = 4 ∧ ¬ x = 7 ∧ ¬ x = 11 ∧ ¬ x = 12 ∧ ¬ x = 13 ∧ ¬ x = 14 ∧ ¬ x = 20 ∧ ¬ x = 21 ∧ x = 22) ∨ (¬ x = 1 ∧ ¬ x = 2 ∧ ¬ x = 4 ∧ ¬ x = 7 ∧ ¬ x = 11 ∧ ¬ x = 12 ∧ ¬ x = 13 ∧ ¬ x = 14 ∧ ¬ x = 20 ∧ ¬ x = 21 ∧ ¬ x = 22 ∧ x = 23) ∨ (¬ x = 1 ∧ ¬ x = 2 ∧ ¬ x = 4 ∧ ¬ x = 7 ∧ ¬ x = 11 ∧ ¬ x = 12 ∧ ¬ x = 13 ∧ ¬ x = 14 ∧ ¬ x = 20 ∧ ¬ x = 21 ∧ ¬ x = 22 ∧ ¬ x = 23) := by omega
theorem mayBe_any (x : Int) (w : World) : Calls Tryd.prog 26 #[.int .i64 x] w fun e w' => e = .returned (.bool (Br.may x)) ∧ w = w' := by
  rcases may_cases x with rfl | ⟨h1, rfl⟩ | ⟨h1, h2, rfl⟩ | ⟨h1, h2, h3, rfl⟩ | ⟨h1, h2, h3, h4, rfl⟩ | ⟨h1, h2, h3, h4, h5, rfl⟩ | ⟨h1, h2, h3, h4, h5, h6, rfl⟩ | ⟨h1, h2, h3, h4, h5, h6, h7, rfl⟩ | ⟨h1, h2, h3, h4, h5, h6, h7, h8, rfl⟩ | ⟨h1, h2, h3, h4, h5, h6, h7, h8, h9, rfl⟩ | ⟨h1, h2, h3, h4, h5, h6, h7, h8, h9, h10, rfl⟩ | ⟨h1, h2, h3, h4, h5, h6, h7, h8, h9, h10, h11, rfl⟩ | ⟨h1, h2, h3, h4, h5, h6, h7, h8, h9, h10, h11, h12⟩
  rotate_left 12
  · have e : Br.may x = false := by simp [Br.may, h1, h2, h3, h4, h5, h6, h7, h8, h9, h10, h11, h12]
    rw [e]; clear e
    go_enter Tryd.func26, Tryd.ntmps26
    go_wp2
    go_ret
    exact ⟨rfl, rfl⟩
  all_goals
    go_enter Tryd.func26, Tryd.ntmps26
    go_wp2
    go_ret
    exact ⟨rfl, rfl⟩
theorem side_cases (x : Int) : (x = 1) ∨ (¬ x = 1 ∧ x = 2) ∨ (¬ x = 1 ∧ ¬ x = 2 ∧ x = 4) ∨ (¬ x = 1 ∧ ¬ x = 2 ∧ ¬ x = 4 ∧ x = 7) ∨ (¬ x = 1 ∧ ¬ x = 2 ∧ ¬ x = 4 ∧ ¬ x = 7) := by omega
theorem bside_any (x : Int) (w : World) : Calls Tryd.prog 39 #[.int .i64 x] w fun e w' => e = .returned (.int .i64 (Br.sd x)) ∧ w = w' := by
  rcases side_cases x with rfl | ⟨h1, rfl⟩ | ⟨h1, h2, rfl⟩ | ⟨h1, h2, h3, rfl⟩ | ⟨h1, h2, h3, h4⟩
  rotate_left 4
  · have e : Br.sd x = 0 := by simp [Br.sd, h1, h2, h3, h4]
    rw [e]; clear e
    go_enter Tryd.func39, Tryd.ntmps39
    go_wp2
    go_ret
    exact ⟨rfl, rfl⟩
  all_goals
    go_enter Tryd.func39, Tryd.ntmps39
    go_wp2
    go_ret
    exact ⟨rfl, rfl⟩
theorem levelSide_any (lv : Int) (hl : 0 ≤ lv) (w : World) : Calls Tryd.prog 27 #[.int .i64 lv] w fun e w' => e = .returned (.int .i64 (Br.es lv)) ∧ w = w' := by
  have ht : lv.tmod 2 = lv % 2 := Int.tmod_eq_emod_of_nonneg hl
  have h2 : lv % 2 = 0 ∨ lv % 2 = 1 := by omega
  rcases h2 with h2 | h2
  · have e : Br.es lv = 1 := by unfold Br.es; rw [if_neg (by omega)]
    rw [e]
    rw [h2] at ht
    clear e h2
    go_enter Tryd.func27, Tryd.ntmps27
    go_wp2
    go_ret
    exact ⟨rfl, rfl⟩
  · have e : Br.es lv = 2 := by unfold Br.es; rw [if_pos h2]
    rw [e]
    rw [h2] at ht
    clear e h2
    go_enter Tryd.func27, Tryd.ntmps27
    go_wp2
    go_ret
    exact ⟨rfl, rfl⟩
theorem ahead_any (ao : Option Addr) (n cap : Nat) (zs : List Int) (s : Int) (w : World) (h : Row .i64 w ao n cap zs) (hn : n ≤ 17592186044416) :
    Calls Tryd.prog 40 #[.slice ao n cap, .int .i64 s] w fun e w' => e = .returned (.int .i64 (Br.ah zs s n)) ∧ w = w' := by
  have H := hide h
  clear h
  go_enter Tryd.func40, Tryd.ntmps40
  go_wp2
  go_loopw [5] (fun s5 wr => ∃ k : Nat, s5 = .int .i64 ((k : Int) - 1) ∧ k ≤ n ∧ Hid (Br.ah zs s n = Br.ah zs s k) ∧ w = wr) (fun s5 _ => (intOf s5 + 1).toNat)
  case atStart => exact ⟨n, rfl, Nat.le_refl _, hide rfl, rfl⟩
  case round =>
    obtain ⟨k, rfl, hk, HA, rfl⟩ := hrel
    cases k with
    | zero =>
      have HE : Hid (Br.ah zs s n = s) := hide (by rw [HA.out]; rfl)
      clear HA
      go_wp2
      go_ret
      exact ⟨ret_int HE.out.symm, rfl⟩
    | succ k =>
      obtain ⟨b, off, rfl, hb, hc⟩ := H.out.cells (by omega)
      have g0 := hc k (by rw [H.out.len]; omega)
      have hkn : (k : Int) < (n : Int) := by omega
      have hk0 : (0 : Int) ≤ (k : Int) := by omega
      have hki : ((k + 1 : Nat) : Int) - 1 = (k : Int) := by omega
      rw [hki]
      have HS := hide (bside_any (zs.getD k 0) w)
      by_cases hs : Br.sd (zs.getD k 0) = 0
      · have HE : Hid (Br.ah zs s n = Br.ah zs s k) := hide (by rw [HA.out, Br.ah, if_pos hs])
        rw [hs] at HS
        clear HA hs hc hb
        generalize zs.getD k 0 = x at *
        go_wp2_with (go_at_call 39; refine HS.out.mono ?_; rintro e w' ⟨rfl, rfl⟩)
        go_roundw
        case rel => exact ⟨k, rfl, by omega, HE, trivial⟩
        case measure => simp [intOf]
      · have HE : Hid (Br.ah zs s n = Br.sd (zs.getD k 0)) := hide (by rw [HA.out, Br.ah, if_neg hs])
        clear HA hc hb
        generalize zs.getD k 0 = x at *
        generalize Br.sd x = y at *
        have hy : (y != 0) = true := bne_iff_ne.2 hs
        go_wp2_with (go_at_call 39; refine HS.out.mono ?_; rintro e w' ⟨rfl, rfl⟩)
        go_ret
        exact ⟨ret_int HE.out.symm, rfl⟩
end Go.Proofs.YtkkmifpdhcdkpaaDoor
