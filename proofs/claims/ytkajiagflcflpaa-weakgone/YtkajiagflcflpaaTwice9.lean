/- WeakTwice, WeakGone: what the rules leave they leave as it is, and what is gone is gone. -/
import Derived.Test.YtkajiagflcflpaaWorks9
import Derived.Test.YtkajiagflcflpaaWg
namespace Go.Proofs.Ytkajiagflcflpaa
open Go.RowKit
set_option linter.unusedVariables false
set_option maxHeartbeats 1000000
set_option maxRecDepth 100000
theorem WeakTwice_walk (w : World) (a0 : Option Addr) (n0 cap0 : Nat) (c : List Int) (h0 : Row .i64 w a0 n0 cap0 c) (hf0 : ∀ x ∈ c, (Lit.int .i64 x).wf = true) (hs0 : n0 * 8 ≤ 140737488351232) (s : Int) (hws : (Lit.int .i64 s).wf = true) :
    Calls Try.prog 8 #[.slice a0 n0 cap0, .int .i64 s] w fun e w' => e = .returned (.bool true) ∧ Below w.heap.size w w' := by
  have HW := hide (works9_any w)
  have hn2 : n0 ≤ 17592186044416 := by omega
  clear hf0 hws
  by_cases hs : We.Side s
  · by_cases hok : We.Ok c
    · have HR := hide (fun (w' : World) (hk : KO w w') => resolve_ok a0 n0 cap0 s c w' (h0.below hk) hs0 hs hok)
      have HS := hide (fun (ao : Option Addr) (cap : Nat) (w' : World) (hr : Row .i64 w' ao n0 cap (We.RR s c 7)) => resolve_ok ao n0 cap s (We.RR s c 7) w' hr hs0 hs (We.Ok.RR hs hok 7))
      rw [We.twice hs] at HS
      clear h0 hs hok hs0
      go_enter Try.func8, Try.ntmps8
      go_wp2_with fail
      refine HW.out.mono ?_
      rintro e w1 ⟨rfl, hk1⟩
      have HR1 := hide (HR.out w1 hk1)
      have K1 := hide hk1
      clear HR hk1 HW
      go_wp2_with fail
      refine HR1.out.mono ?_
      rintro e w2 ⟨g, rfl, hN⟩
      have K2 := hide (KO.on K1.out hN.bel)
      have N2 := hide hN.row
      have HS2 := hide (HS.out _ _ w2 hN.row)
      clear HR1 hN K1 HS
      go_wp2_with fail
      refine HS2.out.mono ?_
      rintro e w3 ⟨g3, rfl, hN⟩
      have K3 := hide (KO.on K2.out hN.bel)
      have HI := hide (ints_yes (some ⟨g, 0, none⟩) (some ⟨g3, 0, none⟩) n0 n0 n0 (We.RR s c 7) w3 (N2.out.below hN.bel) hN.row)
      clear hN K2 N2 HS2
      go_wp2_with fail
      refine HI.out.mono ?_
      rintro e w4 ⟨rfl, hd⟩
      have K4 := hide (KO.on K3.out (below_of_drewN hd))
      clear hd HI
      go_wp2
      go_ret
      exact ⟨rfl, K4.out⟩
    · have HR := hide (fun (w' : World) (hk : KO w w') => resolve_form a0 n0 cap0 s c w' (h0.below hk) hn2 hs hok)
      clear h0 hs hok hs0
      go_enter Try.func8, Try.ntmps8
      go_wp2_with fail
      refine HW.out.mono ?_
      rintro e w1 ⟨rfl, hk1⟩
      have HR1 := hide (HR.out w1 hk1)
      have K1 := hide hk1
      clear HR hk1 HW
      go_wp2_with fail
      refine HR1.out.mono ?_
      rintro e w2 ⟨rfl, hk2⟩
      have K2 := hide (KO.on K1.out hk2)
      clear HR1 hk2 K1
      go_wp2
      go_ret
      exact ⟨rfl, K2.out⟩
  · have HR := hide (fun (w' : World) => resolve_side a0 n0 cap0 s w' hs)
    clear h0 hs hs0
    go_enter Try.func8, Try.ntmps8
    go_wp2_with fail
    refine HW.out.mono ?_
    rintro e w1 ⟨rfl, hk1⟩
    have K1 := hide hk1
    clear hk1 HW
    go_wp2_with fail
    refine (HR.out w1).mono ?_
    rintro e w2 ⟨rfl, hk2⟩
    have K2 := hide (KO.on K1.out hk2)
    clear HR hk2 K1
    go_wp2
    go_ret
    exact ⟨rfl, K2.out⟩
theorem WeakGone_walk (w : World) (a0 : Option Addr) (n0 cap0 : Nat) (c : List Int) (h0 : Row .i64 w a0 n0 cap0 c) (hf0 : ∀ x ∈ c, (Lit.int .i64 x).wf = true) (hs0 : n0 * 8 ≤ 140737488351232) (s : Int) (hws : (Lit.int .i64 s).wf = true) :
    Calls Try.prog 6 #[.slice a0 n0 cap0, .int .i64 s] w fun e w' => e = .returned (.bool true) ∧ Below w.heap.size w w' := by
  have HW := hide (works9_any w)
  have hn2 : n0 ≤ 17592186044416 := by omega
  clear hf0 hws
  by_cases hs : We.Side s
  · by_cases hok : We.Ok c
    · have HR := hide (fun (w' : World) (hk : KO w w') => resolve_ok a0 n0 cap0 s c w' (h0.below hk) hs0 hs hok)
      have H0 := hide h0
      have hl := h0.len
      have HGO := hide (fun (i : Nat) (hi : i < n0) (x : Int) (hx : x = 9 ∨ x = 3 ∨ x = 5 ∨ x = 6 ∨ x = 8) => We.gone hs c x hx i (by rw [We.RR_len]; omega))
      have HKE := hide (fun (i : Nat) (hi : i < n0) (hk : We.Kept (c.getD i 0)) => We.kept_RR (s := s) (show i < c.length by omega) hk 7)
      clear h0 hs hok hs0 hl
      go_enter Try.func6, Try.ntmps6
      go_wp2_with fail
      refine HW.out.mono ?_
      rintro e w1 ⟨rfl, hk1⟩
      have HR1 := hide (HR.out w1 hk1)
      have K1 := hide hk1
      clear HR hk1 HW
      go_wp2_with fail
      refine HR1.out.mono ?_
      rintro e w2 ⟨g, rfl, hN⟩
      have K2 := hide (KO.on K1.out hN.bel)
      have N2 := hide hN.row
      have R2 := hide (H0.out.below K2.out)
      clear HR1 hN K1 H0
      go_wp2_with fail
      go_loopw [30] (fun v wr => ∃ k : Nat, v = .int .i64 (k : Int) ∧ k ≤ n0 ∧ w2 = wr) (fun v _ => n0 - (intOf v).toNat)
      case atStart => exact ⟨0, rfl, Nat.zero_le _, rfl⟩
      case round =>
        obtain ⟨k, rfl, hk, rfl⟩ := hrel
        by_cases hlt : k < n0
        · have hin : (k : Int) < (n0 : Int) := by omega
          obtain ⟨b, off, rfl, hbl, hc⟩ := R2.out.cells (by omega)
          have ck := hc k (by rw [R2.out.len]; exact hlt)
          have cx := rowAt N2.out (KO.refl _) k hlt
          rw [Nat.zero_add] at cx
          have g9 := HGO.out k hlt 9 (by omega)
          have g3 := HGO.out k hlt 3 (by omega)
          have g5 := HGO.out k hlt 5 (by omega)
          have g6 := HGO.out k hlt 6 (by omega)
          have g8 := HGO.out k hlt 8 (by omega)
          have HKK := hide (HKE.out k hlt)
          have HM := hide (meas_n0 n0 k hlt)
          clear hc
          generalize (We.RR s c 7).getD k 0 = x at *
          generalize c.getD k 0 = y at *
          have e9 : (x == 9) = false := beq_false_of_ne g9
          have e3 : (x == 3) = false := beq_false_of_ne g3
          have e5 : (x == 5) = false := beq_false_of_ne g5
          have e6 : (x == 6) = false := beq_false_of_ne g6
          have e8 : (x == 8) = false := beq_false_of_ne g8
          have hc : ((y = 1 ∨ (¬ y = 1 ∧ y = 2) ∨ (¬ y = 1 ∧ ¬ y = 2 ∧ 11 ≤ y)) ∧ x = y) ∨ (¬ y = 1 ∧ ¬ y = 2 ∧ ¬ 11 ≤ y) := by
            by_cases hk : We.Kept y
            · have := HKK.out hk
              unfold We.Kept at hk
              omega
            · unfold We.Kept at hk
              omega
          clear HKK g9 g3 g5 g6 g8
          rcases hc with ⟨hy, rfl⟩ | ⟨y1, y2, y3⟩
          · rcases hy with rfl | ⟨y1, rfl⟩ | ⟨y1, y2, y3⟩
            · clear e9 e3 e5 e6 e8
              go_wp2
              go_roundw
              case rel => exact ⟨k + 1, by go_num, by omega, trivial⟩
              case measure => exact HM.out
            · clear e9 e3 e5 e6 e8
              go_wp2
              go_roundw
              case rel => exact ⟨k + 1, by go_num, by omega, trivial⟩
              case measure => exact HM.out
            · have e1 : (x == 1) = false := beq_false_of_ne y1
              have e2 : (x == 2) = false := beq_false_of_ne y2
              go_wp2
              go_roundw
              case rel => exact ⟨k + 1, by go_num, by omega, trivial⟩
              case measure => exact HM.out
          · have e1 : (y == 1) = false := beq_false_of_ne y1
            have e2 : (y == 2) = false := beq_false_of_ne y2
            go_wp2
            go_roundw
            case rel => exact ⟨k + 1, by go_num, by omega, trivial⟩
            case measure => exact HM.out
        · obtain rfl : k = n0 := by omega
          have hne : ¬ ((k : Int) < (k : Int)) := by omega
          clear hlt
          go_wp2
          go_ret
          exact ⟨rfl, K2.out⟩
    · have HR := hide (fun (w' : World) (hk : KO w w') => resolve_form a0 n0 cap0 s c w' (h0.below hk) hn2 hs hok)
      clear h0 hs hok hs0
      go_enter Try.func6, Try.ntmps6
      go_wp2_with fail
      refine HW.out.mono ?_
      rintro e w1 ⟨rfl, hk1⟩
      have HR1 := hide (HR.out w1 hk1)
      have K1 := hide hk1
      clear HR hk1 HW
      go_wp2_with fail
      refine HR1.out.mono ?_
      rintro e w2 ⟨rfl, hk2⟩
      have K2 := hide (KO.on K1.out hk2)
      clear HR1 hk2 K1
      go_wp2
      go_ret
      exact ⟨rfl, K2.out⟩
  · have HR := hide (fun (w' : World) => resolve_side a0 n0 cap0 s w' hs)
    clear h0 hs hs0
    go_enter Try.func6, Try.ntmps6
    go_wp2_with fail
    refine HW.out.mono ?_
    rintro e w1 ⟨rfl, hk1⟩
    have K1 := hide hk1
    clear hk1 HW
    go_wp2_with fail
    refine (HR.out w1).mono ?_
    rintro e w2 ⟨rfl, hk2⟩
    have K2 := hide (KO.on K1.out hk2)
    clear HR hk2 K1
    go_wp2
    go_ret
    exact ⟨rfl, K2.out⟩
end Go.Proofs.Ytkajiagflcflpaa
