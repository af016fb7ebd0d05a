/- WeakChain: all rules together are each by itself, one behind the other. -/
import Derived.Test.YtkajiagflcflpaaWorks9
namespace Go.Proofs.Ytkajiagflcflpaa
open Go.RowKit
set_option linter.unusedVariables false
set_option maxHeartbeats 1000000
set_option maxRecDepth 100000
theorem WeakChain_walk (w : World) (a0 : Option Addr) (n0 cap0 : Nat) (c : List Int) (h0 : Row .i64 w a0 n0 cap0 c) (hf0 : ∀ x ∈ c, (Lit.int .i64 x).wf = true) (hs0 : n0 * 8 ≤ 140737488351232) (s : Int) (hws : (Lit.int .i64 s).wf = true) :
    Calls Try.prog 5 #[.slice a0 n0 cap0, .int .i64 s] w fun e w' => e = .returned (.bool true) ∧ Below w.heap.size w w' := by
  have HW := hide (works9_any w)
  have hn2 : n0 ≤ 17592186044416 := by omega
  clear hf0 hws
  by_cases hs : We.Side s
  · by_cases hok : We.Ok c
    · have HR := hide (fun (w' : World) (hk : KO w w') => resolve_ok a0 n0 cap0 s c w' (h0.below hk) hs0 hs hok)
      have H0 := hide h0
      have HS := hide (fun (k : Nat) (hk : k < 7) (ao : Option Addr) (cap : Nat) (w' : World) (hr : Row .i64 w' ao n0 cap (We.RR s c k)) => step_ok ao n0 cap s k hk (We.RR s c k) w' hr hs0 hs (We.Ok.RR hs hok k))
      clear h0 hs hok hs0
      go_enter Try.func5, Try.ntmps5
      go_wp2_with fail
      refine HW.out.mono ?_
      rintro e w1 ⟨rfl, hk1⟩
      have HR1 := hide (HR.out w1 hk1)
      have K1 := hide hk1
      clear HR hk1 HW
      go_wp2_with fail
      refine HR1.out.mono ?_
      rintro e w2 ⟨g, rfl, hN⟩
      have K2 := hide (KO.on K1.out hN.bel)
      have N2 := hide hN.row
      have R2 := hide (H0.out.below K2.out)
      clear HR1 hN H0 K1
      go_wp2_with fail
      go_loopw [7, 8] (fun v7 v8 wr => ∃ k : Nat, k ≤ 7 ∧ v8 = .int .i64 ((k : Int) + 1) ∧ ∃ ao cap, v7 = .slice ao n0 cap ∧ Hid (Row .i64 wr ao n0 cap (We.RR s c k)) ∧ Hid (Row .i64 wr (some ⟨g, 0, none⟩) n0 n0 (We.RR s c 7)) ∧ Hid (KO w wr)) (fun _ v8 _ => 8 - (intOf v8).toNat)
      case atStart => exact ⟨0, by omega, rfl, a0, cap0, rfl, R2, N2, K2⟩
      case round =>
        obtain ⟨k, hk, rfl, ao, cap, rfl, hR, hA, hK⟩ := hrel
        by_cases hlt : k < 7
        · have hle : (k : Int) + 1 ≤ 7 := by omega
          have HC := hide (HS.out k hlt ao cap wr hR.out)
          rw [← We.RR_succ] at HC
          clear hR
          go_wp2_with fail
          refine HC.out.mono ?_
          rintro e w3 ⟨g3, rfl, hN⟩
          have K3 := hide (KO.on hK.out hN.bel)
          have A3 := hide (hA.out.below hN.bel)
          have N3 := hide hN.row
          clear HC hN hK hA
          go_wp2
          go_roundw
          case rel => exact ⟨k + 1, by omega, by go_num, _, _, rfl, N3, A3, K3⟩
          case measure => simp [intOf]; omega
        · obtain rfl : k = 7 := by omega
          have HI := hide (ints_yes (some ⟨g, 0, none⟩) ao n0 n0 cap (We.RR s c 7) wr hA.out hR.out)
          clear hlt hk hA hR
          go_wp2_with fail
          refine HI.out.mono ?_
          rintro e w3 ⟨rfl, hd⟩
          have K3 := hide (KO.on hK.out (below_of_drewN hd))
          clear hd HI
          go_wp2
          go_ret
          exact ⟨rfl, K3.out⟩
    · have HR := hide (fun (w' : World) (hk : KO w w') => resolve_form a0 n0 cap0 s c w' (h0.below hk) hn2 hs hok)
      have HS := hide (fun (w' : World) (hk : KO w w') => step_form a0 n0 cap0 s 0 (by omega) c w' (h0.below hk) hn2 hs hok)
      clear h0 hs hok hs0
      go_enter Try.func5, Try.ntmps5
      go_wp2_with fail
      refine HW.out.mono ?_
      rintro e w1 ⟨rfl, hk1⟩
      have HR1 := hide (HR.out w1 hk1)
      have K1 := hide hk1
      clear HR hk1 HW
      go_wp2_with fail
      refine HR1.out.mono ?_
      rintro e w2 ⟨rfl, hk2⟩
      have K2 := hide (KO.on K1.out hk2)
      clear HR1 hk2 K1
      go_wp2_with fail
      go_loopw [7, 8] (fun v7 v8 wr => v8 = .int .i64 1 ∧ v7 = .slice a0 n0 cap0 ∧ w2 = wr) (fun _ v8 _ => 8 - (intOf v8).toNat)
      case atStart => exact ⟨rfl, rfl, rfl⟩
      case round =>
        obtain ⟨rfl, rfl, rfl⟩ := hrel
        have HC := hide (HS.out w2 K2.out)
        go_wp2_with fail
        refine HC.out.mono ?_
        rintro e w3 ⟨rfl, hk3⟩
        have K3 := hide (KO.on K2.out hk3)
        clear HC hk3 HS
        go_wp2
        go_ret
        exact ⟨rfl, K3.out⟩
  · have HR := hide (fun (w' : World) => resolve_side a0 n0 cap0 s w' hs)
    have HS := hide (fun (w' : World) => step_side a0 n0 cap0 s 0 (by omega) w' hs)
    clear h0 hs hs0
    go_enter Try.func5, Try.ntmps5
    go_wp2_with fail
    refine HW.out.mono ?_
    rintro e w1 ⟨rfl, hk1⟩
    have K1 := hide hk1
    clear hk1 HW
    go_wp2_with fail
    refine (HR.out w1).mono ?_
    rintro e w2 ⟨rfl, hk2⟩
    have K2 := hide (KO.on K1.out hk2)
    clear HR hk2 K1
    go_wp2_with fail
    go_loopw [7, 8] (fun v7 v8 wr => v8 = .int .i64 1 ∧ v7 = .slice a0 n0 cap0 ∧ w2 = wr) (fun _ v8 _ => 8 - (intOf v8).toNat)
    case atStart => exact ⟨rfl, rfl, rfl⟩
    case round =>
      obtain ⟨rfl, rfl, rfl⟩ := hrel
      have HC := hide (HS.out w2)
      go_wp2_with fail
      refine HC.out.mono ?_
      rintro e w3 ⟨rfl, hk3⟩
      have K3 := hide (KO.on K2.out hk3)
      clear HC hk3 HS
      go_wp2
      go_ret
      exact ⟨rfl, K3.out⟩
end Go.Proofs.Ytkajiagflcflpaa
