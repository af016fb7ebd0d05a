/- Like lists of pairs, wherever they lie; the chapter's examples. -/
import Derived.Test.YtmcbldllbnjipaaPr16
import Derived.Test.YtmcbldllbnjipaaPq16
import Derived.Test.YtmcbldllbnjipaaEq2
namespace Go.Proofs.Ytmcbldllbnjipaa
open Go.RowKit
set_option linter.unusedVariables false
set_option maxHeartbeats 1000000
set_option maxRecDepth 100000
theorem pi_same (a0 a1 : Option Addr) (n c0 c1 : Nat) (Z : List (Int × Int)) (w : World) (h0 : PI w a0 n c0 Z) (h1 : PI w a1 n c1 Z) :
    Calls Try.prog 12 #[.slice a0 n c0, .slice a1 n c1] w fun e w' => e = .returned (.bool true) ∧ ∃ k, w' = w.drewN k := by
  have hx := h0.le
  have hm := h0.max
  unfold maxLen at hm
  have H0 := hide h0
  have H1 := hide h1
  have heq := run_same2
  clear h0 h1
  go_enter Try.func12, Try.ntmps12
  go_wp2
  go_loopw [5] (fun i wr => ∃ k nq : Nat, k ≤ n ∧ i = .int .i64 k ∧ wr = w.drewN nq) (fun i _ => n - (intOf i).toNat)
  case atStart => exact ⟨0, 0, Nat.zero_le _, rfl, rfl⟩
  case round =>
    obtain ⟨k, nq, hk, rfl, rfl⟩ := hrel
    by_cases hlt : k < n
    · obtain ⟨b0, o0, rfl, _, hc0⟩ := H0.out.cells (by omega)
      obtain ⟨b1, o1, rfl, _, hc1⟩ := H1.out.cells (by omega)
      obtain ⟨g0, g1⟩ := hc0 k hlt
      obtain ⟨g2, g3⟩ := hc1 k hlt
      clear hc0 hc1
      generalize (Z.getD k (0, 0)).1 = x at *
      generalize (Z.getD k (0, 0)).2 = y at *
      have hlt' : (k : Int) < (n : Int) := by omega
      go_wp2
      go_quiet (fail)
      go_wp2
      go_roundw
      case rel => exact ⟨k + 1, _, by omega, by go_num, by first | rfl | exact World.drewN_drewN _ _ _⟩
      case measure => simp [intOf]; omega
    · go_wp2
      go_ret
      exact ⟨rfl, _, rfl⟩
theorem build_pair2 (x y u v : Int) (w : World) : (Instr.buildSlice 24 2 #[(0, .agg #[.int .i64 x, .int .i64 y]), (1, .agg #[.int .i64 u, .int .i64 v])]).run Try.prog w = .ok (.slice (some ⟨w.heap.size, 0, none⟩) 2 2) (w.alloc (.cells #[.int .i64 x, .int .i64 y, .int .i64 u, .int .i64 v] 39)) := by
  have hq := pairInfo
  cases hi : Try.prog.info? 39 with
  | none => rw [hi] at hq; cases hq
  | some ie =>
    rw [hi] at hq
    simp only [Option.map_some, Option.some.injEq, Prod.mk.injEq] at hq
    refine run_buildSlice w 24 39 2 _ _ ie _ Try.underlying24 hi hq.1 (by rw [hq.2.1]; decide) (by rw [hq.2.1]; decide) ?_
    rw [hq.2.1]
    kernel_rfl
theorem pi_lit (w : World) (Z : List (Int × Int)) (t : TypeId) (hm : Z.length ≤ maxLen) : PI (w.alloc (.cells (flz Z).toArray t)) (some ⟨w.heap.size, 0, none⟩) Z.length Z.length Z :=
  ⟨rfl, Nat.le_refl _, hm, fun _ => ⟨w.heap.size, 0, rfl, by simp, fun k hk => by
    have h := flz_at Z k hk
    rw [Nat.zero_add, World.cell?_alloc_mark, World.cell?_alloc_mark]
    simp only [List.getElem?_toArray]
    exact h⟩, fun h => by cases h⟩
theorem ex16a : PRA [0, 1, 1, 0] 0 2 [(0, 1), (2, 3)] 0 := .inl ⟨by decide, by decide, by decide +kernel, rfl⟩
theorem ex16b : QA [0, 1, 1, 0] [(1, 3)] [1, 2] 0 := by
  refine .inr (.inr ⟨by decide, fun i hi => ?_, by decide +kernel, rfl⟩)
  have h0 : i = 0 := by simp at hi; omega
  subst h0
  decide +kernel
theorem works16_any (w : World) : Calls Try.prog 9 #[] w fun e w' => e = .returned (.bool true) ∧ KO w w' := by
  have hka : KO w (w.alloc (.cells #[.int .i64 0, .int .i64 1, .int .i64 1, .int .i64 0] 3)) := KO.alloc (KO.refl _) _
  have hr0 := row_lit .i64 w [0, 1, 1, 0] 3 (by simp [maxLen])
  have HR := hide (pruns_any _ 4 4 [0, 1, 1, 0] 0 2 _ hr0 (by omega) _ _ ex16a)
  have HP := hide (fun (az : Option Addr) (cz : Nat) (W : World) (hk : KO (w.alloc (.cells #[.int .i64 0, .int .i64 1, .int .i64 1, .int .i64 0] 3)) W) (hz : PI W az 1 cz [(1, 3)]) => pplaces_any _ az 4 1 4 cz [0, 1, 1, 0] [(1, 3)] W (hr0.below hk) hz (by omega) _ _ ex16b)
  simp only [List.length_cons, List.length_nil] at HR HP
  have KA := hide hka
  have hbd := pbuild_pair
  have hb1 := build_pair1
  have hb2 := build_pair2
  clear hka hr0
  go_enter Try.func9, Try.ntmps9
  go_wp2_with fail
  refine HR.out.mono ?_
  rintro e w1 ⟨a1, c1, rfl, hp1, hk1⟩
  have K1 := hide hk1
  have P1 := hide (pi_of_pairs hp1)
  have Q1 := hide (pi_lit w1 [(1, 3)] 39 (by simp [maxLen]))
  have L1 := hide (show KO w1 (w1.alloc (.cells #[.int .i64 1, .int .i64 3] 39)) from KO.alloc (KO.refl _) _)
  clear hp1 hk1 HR
  have HP1 := hide (HP.out _ _ _ (KO.on K1.out L1.out) Q1.out)
  clear HP Q1
  go_wp2_with fail
  refine HP1.out.mono ?_
  rintro e w2 ⟨a2, c2, rfl, hr2, hk2⟩
  have K2 := hide (KO.on L1.out hk2)
  have R2 := hide (show Row .i64 w2 a2 2 c2 [1, 2] from hr2)
  clear hr2 hk2 HP1 L1
  have L2 := hide (show KO w2 (w2.alloc (.cells #[.int .i64 0, .int .i64 1, .int .i64 2, .int .i64 3] 39)) from KO.alloc (KO.refl _) _)
  have HS := hide (pi_same a1 _ 2 c1 2 [(0, 1), (2, 3)] _ (P1.out.below (KO.on K2.out L2.out)) (pi_lit w2 [(0, 1), (2, 3)] 39 (by simp [maxLen])))
  go_wp2_with fail
  refine HS.out.mono ?_
  rintro e w3 ⟨rfl, hd3⟩
  have K3 := hide (show KO w2 w3 from KO.on L2.out (below_of_drewN hd3))
  clear hd3 HS
  have L3 := hide (show KO w3 (w3.alloc (.cells #[.int .i64 1, .int .i64 2] 3)) from KO.alloc (KO.refl _) _)
  have HI := hide (ints_yes a2 _ 2 c2 2 [1, 2] _ (R2.out.below (KO.on K3.out L3.out)) (row_lit .i64 w3 [1, 2] 3 (by simp [maxLen])))
  go_wp2_with fail
  refine HI.out.mono ?_
  rintro e w4 ⟨rfl, hd4⟩
  have K4 := hide (show KO w3 w4 from KO.on L3.out (below_of_drewN hd4))
  clear hd4 HI
  go_wp2
  go_ret
  exact ⟨rfl, KO.on KA.out (KO.on K1.out (KO.on K2.out (KO.on K3.out K4.out)))⟩
end Go.Proofs.Ytmcbldllbnjipaa
