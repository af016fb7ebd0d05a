/- WeakNumbers: a number of the one kind has the other direction ahead. -/
import Derived.Test.YtkajiagflcflpaaWorks9
import Derived.Test.YtkajiagflcflpaaWg
namespace Go.Proofs.Ytkajiagflcflpaa
open Go.RowKit
set_option linter.unusedVariables false
set_option maxHeartbeats 1000000
set_option maxRecDepth 100000
theorem WeakNumbers_walk (w : World) (a0 : Option Addr) (n0 cap0 : Nat) (c : List Int) (h0 : Row .i64 w a0 n0 cap0 c) (hf0 : ∀ x ∈ c, (Lit.int .i64 x).wf = true) (hs0 : n0 * 8 ≤ 140737488351232) (s : Int) (hws : (Lit.int .i64 s).wf = true) :
    Calls Try.prog 7 #[.slice a0 n0 cap0, .int .i64 s] w fun e w' => e = .returned (.bool true) ∧ Below w.heap.size w w' := by
  have HW := hide (works9_any w)
  have hn2 : n0 ≤ 17592186044416 := by omega
  clear hf0 hws
  by_cases hs : We.Side s
  · by_cases hok : We.Ok c
    · have HR := hide (fun (w' : World) (hk : KO w w') => resolve_ok a0 n0 cap0 s c w' (h0.below hk) hs0 hs hok)
      have HS := hide (fun (w' : World) (hk : KO w w') => step_ok a0 n0 cap0 s 1 (by omega) c w' (h0.below hk) hs0 hs hok)
      have H0 := hide h0
      have hl := h0.len
      have HD := hide (fun (i : Nat) (hi : i < n0) => (We.done hs c).num i (by rw [We.RR_len]; omega))
      have HG := hide (fun (i : Nat) (hi : i < n0) => We.gone hs c 3 (by omega) i (by rw [We.RR_len]; omega))
      have HT := hide (fun (i : Nat) (hi : i < n0) => We.two_num (s := s) (t := c) (i := i) (by omega))
      have HST := hide (fun (t : List Int) (i : Nat) => (show We.strong t s (i + 1) = if t.getD i 0 = 1 ∨ t.getD i 0 = 2 ∨ t.getD i 0 = 3 then t.getD i 0 else We.strong t s i from rfl))
      clear h0 hs hok hs0 hl
      go_enter Try.func7, Try.ntmps7
      go_wp2_with fail
      refine HW.out.mono ?_
      rintro e w1 ⟨rfl, hk1⟩
      have HR1 := hide (HR.out w1 hk1)
      have K1 := hide hk1
      clear HR hk1 HW
      go_wp2_with fail
      refine HR1.out.mono ?_
      rintro e w2 ⟨g, rfl, hN⟩
      have K2 := hide (KO.on K1.out hN.bel)
      have N2 := hide hN.row
      clear HR1 hN K1
      go_wp2_with fail
      go_loopw [7, 29] (fun v7 v wr => ∃ k : Nat, v = .int .i64 (k : Int) ∧ k ≤ n0 ∧ v7 = .int .i64 (We.strong (We.RR s c 7) s k) ∧ w2 = wr) (fun _ v _ => n0 - (intOf v).toNat)
      case atStart => exact ⟨0, rfl, Nat.zero_le _, rfl, rfl⟩
      case round =>
        obtain ⟨k, rfl, hk, rfl, rfl⟩ := hrel
        by_cases hlt : k < n0
        · have hin : (k : Int) < (n0 : Int) := by omega
          have cx := rowAt N2.out (KO.refl _) k hlt
          rw [Nat.zero_add] at cx
          have g3 := HG.out k hlt
          have hd := HD.out k hlt
          have hst := HST.out (We.RR s c 7) k
          have HM := hide (meas_n0 n0 k hlt)
          obtain ⟨L2, hL2⟩ : ∃ L2, We.strong (We.RR s c 7) s (k + 1) = L2 := ⟨_, rfl⟩
          have HL2 := hide hL2
          rw [hL2] at hst
          clear hL2
          generalize We.strong (We.RR s c 7) s k = L at *
          generalize (We.RR s c 7).getD k 0 = x at *
          have hc : ((x = 1 ∨ (¬ x = 1 ∧ x = 2)) ∧ L2 = x) ∨ (¬ x = 1 ∧ ¬ x = 2 ∧ L2 = L ∧ x = 4 ∧ ¬ L = 1) ∨ (¬ x = 1 ∧ ¬ x = 2 ∧ L2 = L ∧ ¬ x = 4) := by
            by_cases hx : x = 1 ∨ x = 2 ∨ x = 3
            · rw [if_pos hx] at hst
              omega
            · rw [if_neg hx] at hst
              omega
          clear hst hd g3
          rcases hc with ⟨hx, rfl⟩ | ⟨x1, x2, rfl, rfl, hL⟩ | ⟨x1, x2, rfl, x4⟩
          · rcases hx with rfl | ⟨x1, rfl⟩
            · go_wp2
              go_roundw
              case rel => exact ⟨k + 1, by go_num, by omega, by rw [HL2.out], trivial⟩
              case measure => exact HM.out
            · go_wp2
              go_roundw
              case rel => exact ⟨k + 1, by go_num, by omega, by rw [HL2.out], trivial⟩
              case measure => exact HM.out
          · have e1 : (L2 == 1) = false := beq_false_of_ne hL
            clear hL
            go_wp2
            go_roundw
            case rel => exact ⟨k + 1, by go_num, by omega, by rw [HL2.out], trivial⟩
            case measure => exact HM.out
          · have e1 : (x == 1) = false := beq_false_of_ne x1
            have e2 : (x == 2) = false := beq_false_of_ne x2
            have e4 : (x == 4) = false := beq_false_of_ne x4
            clear x1 x2 x4
            go_wp2
            go_roundw
            case rel => exact ⟨k + 1, by go_num, by omega, by rw [HL2.out], trivial⟩
            case measure => exact HM.out
        · obtain rfl : k = n0 := by omega
          have hne : ¬ ((k : Int) < (k : Int)) := by omega
          generalize We.strong (We.RR s c 7) s k = L at *
          have HS2 := hide (HS.out w2 K2.out)
          clear hlt HD HG N2 HS
          go_wp2_with fail
          refine HS2.out.mono ?_
          rintro e w3 ⟨g3, rfl, hN⟩
          have K3 := hide (KO.on K2.out hN.bel)
          have N3 := hide hN.row
          have R3 := hide (H0.out.below K3.out)
          clear hN HS2 H0
          go_wp2_with fail
          go_loopw [7, 65] (fun v7 v wr => ∃ j : Nat, v = .int .i64 (j : Int) ∧ j ≤ k ∧ v7 = .int .i64 (We.strong (We.R 2 s c) s j) ∧ w3 = wr) (fun _ v _ => k - (intOf v).toNat)
          case atStart => exact ⟨0, rfl, Nat.zero_le _, rfl, rfl⟩
          case round =>
            obtain ⟨j, rfl, hj, rfl, rfl⟩ := hrel
            by_cases hlt : j < k
            · have hin : (j : Int) < (k : Int) := by omega
              have cx := rowAt N3.out (KO.refl _) j hlt
              rw [Nat.zero_add] at cx
              obtain ⟨b, off, rfl, hbl, hc⟩ := R3.out.cells (by omega)
              have cy := hc j (by rw [R3.out.len]; exact hlt)
              have ht := HT.out j hlt
              have hst := HST.out (We.R 2 s c) j
              have HM := hide (meas_n0 k j hlt)
              obtain ⟨L2, hL2⟩ : ∃ L2, We.strong (We.R 2 s c) s (j + 1) = L2 := ⟨_, rfl⟩
              have HL2 := hide hL2
              rw [hL2] at hst
              clear hL2 hc
              generalize We.strong (We.R 2 s c) s j = L at *
              generalize (We.R 2 s c).getD j 0 = x at *
              generalize c.getD j 0 = y at *
              have hc : ((x = 1 ∨ (¬ x = 1 ∧ x = 2) ∨ (¬ x = 1 ∧ ¬ x = 2 ∧ x = 3)) ∧ L2 = x) ∨ (L2 = L ∧ x = 4 ∧ ¬ L = 3) ∨ (L2 = L ∧ x = 7 ∧ y = 7) ∨ (L2 = L ∧ x = 7 ∧ ¬ y = 7 ∧ L = 3) ∨ (¬ x = 1 ∧ ¬ x = 2 ∧ ¬ x = 3 ∧ ¬ x = 4 ∧ ¬ x = 7 ∧ L2 = L) := by
                by_cases hx : x = 1 ∨ x = 2 ∨ x = 3
                · rw [if_pos hx] at hst
                  omega
                · rw [if_neg hx] at hst
                  omega
              clear hst ht
              rcases hc with ⟨hx, rfl⟩ | ⟨rfl, rfl, hL⟩ | ⟨rfl, rfl, rfl⟩ | ⟨rfl, rfl, hy, rfl⟩ | ⟨x1, x2, x3, x4, x7, rfl⟩
              · rcases hx with rfl | ⟨x1, rfl⟩ | ⟨x1, x2, rfl⟩
                all_goals
                  go_wp2
                  go_roundw
                  case rel => exact ⟨j + 1, by go_num, by omega, by rw [HL2.out], trivial⟩
                  case measure => exact HM.out
              · have e1 : (L2 == 3) = false := beq_false_of_ne hL
                clear hL
                go_wp2
                go_roundw
                case rel => exact ⟨j + 1, by go_num, by omega, by rw [HL2.out], trivial⟩
                case measure => exact HM.out
              · go_wp2
                go_roundw
                case rel => exact ⟨j + 1, by go_num, by omega, by rw [HL2.out], trivial⟩
                case measure => exact HM.out
              · have e1 : (y != 7) = true := bne_iff_ne.2 hy
                clear hy
                go_wp2
                go_roundw
                case rel => exact ⟨j + 1, by go_num, by omega, by rw [HL2.out], trivial⟩
                case measure => exact HM.out
              · have e1 : (x == 1) = false := beq_false_of_ne x1
                have e2 : (x == 2) = false := beq_false_of_ne x2
                have e3 : (x == 3) = false := beq_false_of_ne x3
                have e4 : (x == 4) = false := beq_false_of_ne x4
                have e7 : (x == 7) = false := beq_false_of_ne x7
                clear x1 x2 x3 x4 x7
                go_wp2
                go_roundw
                case rel => exact ⟨j + 1, by go_num, by omega, by rw [HL2.out], trivial⟩
                case measure => exact HM.out
            · obtain rfl : j = k := by omega
              have hne2 : ¬ ((j : Int) < (j : Int)) := by omega
              generalize We.strong (We.R 2 s c) s j = L9 at *
              clear hlt
              go_wp2
              go_ret
              exact ⟨rfl, K3.out⟩
    · have HR := hide (fun (w' : World) (hk : KO w w') => resolve_form a0 n0 cap0 s c w' (h0.below hk) hn2 hs hok)
      clear h0 hs hok hs0
      go_enter Try.func7, Try.ntmps7
      go_wp2_with fail
      refine HW.out.mono ?_
      rintro e w1 ⟨rfl, hk1⟩
      have HR1 := hide (HR.out w1 hk1)
      have K1 := hide hk1
      clear HR hk1 HW
      go_wp2_with fail
      refine HR1.out.mono ?_
      rintro e w2 ⟨rfl, hk2⟩
      have K2 := hide (KO.on K1.out hk2)
      clear HR1 hk2 K1
      go_wp2
      go_ret
      exact ⟨rfl, K2.out⟩
  · have HR := hide (fun (w' : World) => resolve_side a0 n0 cap0 s w' hs)
    clear h0 hs hs0
    go_enter Try.func7, Try.ntmps7
    go_wp2_with fail
    refine HW.out.mono ?_
    rintro e w1 ⟨rfl, hk1⟩
    have K1 := hide hk1
    clear hk1 HW
    go_wp2_with fail
    refine (HR.out w1).mono ?_
    rintro e w2 ⟨rfl, hk2⟩
    have K2 := hide (KO.on K1.out hk2)
    clear HR hk2 K1
    go_wp2
    go_ret
    exact ⟨rfl, K2.out⟩
end Go.Proofs.Ytkajiagflcflpaa
